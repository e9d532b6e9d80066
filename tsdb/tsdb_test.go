package tsdb_test

import (
	"fmt"
	"math"
	"slices"
	"strings"
	"testing"

	"gauge/api"
	"gauge/block"
	"gauge/disk"
	"gauge/tsdb"
	"gauge/wal"
)

// The chapter's examples.
func TestExamples(t *testing.T) {
	_, x := fresh(t)
	told(t, "Append", x.Append(pts(pt("x", 10, 1))), api.OK)
	told(t, "Append again", x.Append(pts(pt("x", 10, 2))), api.ErrOrder)
	told(t, "Flush", x.Flush(), api.OK)
	told(t, "Append", x.Append(pts(pt("x", 11, 2))), api.OK)
	want := []api.Series{{Labels: set("a", "x"), Samples: []api.Sample{{T: 10, V: 1}, {T: 11, V: 2}}}}
	if l, e := x.Select(is("x"), 0, 99); e != api.OK || !same(l, want) || x.Blocks() != 1 || x.Count() != 2 {
		t.Error(l, e, x.Blocks(), x.Count())
	}
	told(t, "Delete", x.Delete(is("x"), 10, 10), api.OK)
	want[0].Samples = want[0].Samples[1:]
	if l, e := x.Select(is("x"), 0, 99); e != api.OK || !same(l, want) || x.Blocks() != 1 || x.Count() != 1 {
		t.Error(l, e, x.Blocks(), x.Count())
	}
}

// P14.1

func TestOpenNew(t *testing.T) {
	if x, e := tsdb.Open(nil); x != nil || e != api.ErrNil {
		t.Error(x, e)
	}
	d, x := fresh(t)
	begun().hold(t, d, x)
	if b, e := d.Read("wal-0"); len(b) != 0 || e != api.OK {
		t.Errorf("%x %d", b, e)
	}
	// Opened again, it is the same, and nothing is done.
	n := d.Done()
	begun().hold(t, d, opened(t, d))
	if d.Done() != n {
		t.Error(d.Done() - n)
	}
}

func TestOpenNoRoom(t *testing.T) {
	for room := 1; room < 20; room++ {
		d := made(t, room)
		x, e := tsdb.Open(d)
		if room >= 9 {
			told(t, "with room", e, api.OK)
			begun().hold(t, d, x)
			continue
		}
		if x != nil || e != api.ErrFull || len(d.List()) != 0 {
			t.Errorf("room %d: %v %d, files %q", room, x, e, d.List())
		}
	}
	for others := 58; others <= api.MaxFiles; others++ {
		d := made(t, 100)
		for i := range others {
			ok(t, d.Create(fmt.Sprint("other", i)))
		}
		ahead := d.List()
		x, e := tsdb.Open(d)
		if others+2 <= api.MaxFiles {
			told(t, "with room for two files", e, api.OK)
			begun().filed(t, d, ahead...)
			continue
		}
		if x != nil || e != api.ErrFull || !slices.Equal(d.List(), ahead) {
			t.Errorf("%d others: %v %d, files %q", others, x, e, d.List())
		}
	}
}

// What lies about under the names of the first files is removed ahead; other
// files of a store that has a manifest are removed, all others stay.
func TestOpenLyingAbout(t *testing.T) {
	d := made(t, 10000)
	stay := []string{"manifest.old", "block", "wal", "walrus", "a-block-1", "tmp.", "tmp2", "manifest.new2", "0"}
	lie := []string{"block-0", "block-9", "block-x", "block-", "block-00", "wal-7", "wal-", "wal-00", "wal-0.", "tmp", "manifest.new", "wal-0"}
	for _, name := range append(stay, lie...) {
		l, _, e := wal.Open(made(t, 100), "a")
		ok(t, e, l.Append(api.Rec{Kind: api.RecSeries}))
		ok(t, d.Create(name), d.Append(name, []byte{0, 2, 1, 0, 9, 9, 9, 9}))
	}
	x := opened(t, d)
	if b, _ := d.Read("wal-0"); len(b) != 0 {
		t.Errorf("%x", b)
	}
	if s := begun().differs(x); s != "" {
		t.Error(s)
	}
	if slices.Contains(d.List(), "manifest.new") || len(d.List()) != len(stay)+len(lie) {
		t.Errorf("%q", d.List())
	}
	// A number that comes is one under which a file lies about.
	ok(t, d.Create("block-1"), d.Append("block-1", []byte("lies about")), x.Append(pts(pt("x", 1, 1))), x.Flush())
	m, _ := begun().append(pts(pt("x", 1, 1)))
	m, _ = m.flush()
	m.filed(t, d, append(stay, lie...)...)
	m.filed(t, d, append(stay, lie...)...)
	x = opened(t, d)
	m.filed(t, d, stay...)
	if s := m.differs(x); s != "" {
		t.Error(s)
	}
	for _, name := range stay {
		if b, e := d.Read(name); len(b) != 8 || e != api.OK {
			t.Errorf("%s: %x %d", name, b, e)
		}
	}
}

// stored tells a disk with blocks 1 and 3, and a log 4 with two series.
func stored(t *testing.T) (*disk.Disk, model) {
	t.Helper()
	d, x, m := done(t, calls(appending(pt("x", 1, 1), pt("y", 2, 2)), flushing(), appending(pt("x", 3, 3)), flushing(), appending(pt("x", 5, 5)), appending(pt("z", 6, 6))))
	m.hold(t, d, x)
	if m.log != 4 || !slices.Equal(m.numbers, []int{1, 3}) || m.next != 5 {
		t.Fatal(m)
	}
	return d, m
}

// rewritten tells a copy of a disk, of which a file has other bytes.
func rewritten(t *testing.T, d *disk.Disk, name string, b []byte) *disk.Disk {
	t.Helper()
	c := d.Copy()
	if e := c.Remove(name); e != api.OK && e != api.ErrNone {
		t.Fatal(e)
	}
	ok(t, c.Create(name), c.Append(name, b), c.Sync(name), c.SyncDir())
	return c
}

// corrupt looks whether Open tells ErrCorrupt, and does nothing.
func corrupt(t *testing.T, what string, d *disk.Disk) {
	t.Helper()
	n := d.Done()
	if x, e := tsdb.Open(d); x != nil || e != api.ErrCorrupt || d.Done() != n {
		t.Errorf("%s: %v %d, %d changes", what, x != nil, e, d.Done()-n)
	}
}

func TestOpenManifest(t *testing.T) {
	d, m := stored(t)
	right := m.manifest()
	if b, _ := d.Read("manifest"); string(b) != string(framed(5, 4, 2, 1, 3)) {
		t.Fatalf("%x", b)
	}
	for i := range right {
		corrupt(t, fmt.Sprint("cut at ", i), rewritten(t, d, "manifest", right[:i]))
		for bit := range 8 {
			b := slices.Clone(right)
			b[i] ^= 1 << bit
			corrupt(t, fmt.Sprint("turned at ", i, " ", bit), rewritten(t, d, "manifest", b))
		}
	}
	for _, numbers := range [][]int{{}, {5}, {5, 4}, {5, 4, 2}, {5, 4, 2, 1}, {5, 4, 2, 1, 3, 3}, {5, 4, 2, 1, 3, 0}, {5, 4, 1, 1, 3}, {5, 4, 3, 1, 3}, {5, 4, 0, 1}, {5, 4, 1}, {5, 4, 2, 1, 1}, {5, 4, 2, 1, 2}, {5, 4, 2, 1, 4}, {5, 4, 1, 4}, {5, 1, 2, 1, 3}, {5, 3, 0}, {5, 4, 2, 1, math.MaxInt}, {5, math.MaxInt, 0}, {5, 4, math.MaxInt}, {5, 4, math.MaxInt, 1, 3}, {5, 4, 1, 123456789012345678}} {
		corrupt(t, fmt.Sprint(numbers), rewritten(t, d, "manifest", framed(numbers...)))
	}
	corrupt(t, "two frames", rewritten(t, d, "manifest", append(slices.Clone(right), right...)))
	corrupt(t, "a byte more", rewritten(t, d, "manifest", append(slices.Clone(right), 0)))
	// No number, or one in a form that is none, or that ends too soon.
	for _, body := range []string{"\x05\x04\x80\x00", "\x05\x04\x00\x80", "\x05\x84\x00\x00", "\x05\x04\x02\x01\x83", "\x05\x04\x02\x01\x83\x00", "\x05\x04\x00\xff\xff\xff\xff\xff\xff\xff\xff\xff\x01"} {
		b := framed()[:2]
		b[1] = byte(len(body))
		corrupt(t, fmt.Sprintf("%x", body), rewritten(t, d, "manifest", summed(append(b, body...))))
	}
	// Such frames: other blocks, another order, a number that is far ahead.
	for _, c := range []struct {
		numbers []int
		blocks  []int
	}{{[]int{5, 4, 2, 1, 3}, []int{0, 1}}, {[]int{5, 4, 1, 3}, []int{1}}, {[]int{7, 4, 1, 1}, []int{0}}, {[]int{1 << 40, 4, 0}, nil}} {
		y := rewritten(t, d, "manifest", framed(c.numbers...))
		want := model{next: c.numbers[0], log: 4, numbers: c.numbers[3:], head: m.head}
		for _, i := range c.blocks {
			want.blocks = append(want.blocks, m.blocks[i])
		}
		x := opened(t, y)
		want.hold(t, y, x)
		want, _ = want.flush()
		ok(t, x.Flush())
		want.hold(t, y, x)
	}
}

// summed tells bytes that begin as a frame, and the sum behind them.
func summed(b []byte) []byte {
	f := framed()
	f = append(f[:0], b...)
	return append(f, sumOf(b)...)
}

// What stands under the next number is no file that lies about, if it is named:
// a store whose manifest says so goes on behind all that are named.
func TestOpenNumbersTaken(t *testing.T) {
	d, m := stored(t)
	for _, next := range []int{0, 1, 2, 3, 4} {
		y := rewritten(t, d, "manifest", framed(next, 4, 2, 1, 3))
		x := opened(t, y)
		if s := m.differs(x); s != "" {
			t.Error(s)
		}
		ok(t, x.Flush(), x.Append(pts(pt("x", 9, 9))))
		want, _ := m.flush()
		want, _ = want.append(pts(pt("x", 9, 9)))
		want.hold(t, y, x)
	}
	// Numbers that go too far are refused, and nothing is changed.
	for _, next := range []int{math.MaxInt, math.MaxInt - 1} {
		y := rewritten(t, d, "manifest", framed(next, 4, 2, 1, 3))
		x := opened(t, y)
		for range 2 {
			if e := x.Flush(); e == api.OK {
				t.Error(e)
			}
			if e := x.Retain(4); e == api.OK {
				t.Error(e)
			}
			m.next = next
			m.hold(t, y, x)
		}
		told(t, "Append", x.Append(pts(pt("x", 9, 9))), api.OK)
	}
}

func TestOpenBlocks(t *testing.T) {
	d, _ := stored(t)
	for _, name := range []string{"block-1", "block-3"} {
		c := d.Copy()
		ok(t, c.Remove(name))
		corrupt(t, name+" is not there", c)
		right, _ := d.Read(name)
		for i := range right {
			corrupt(t, name+" is cut off", rewritten(t, d, name, right[:i]))
			b := slices.Clone(right)
			b[i] ^= 4
			corrupt(t, name+" is turned", rewritten(t, d, name, b))
		}
		corrupt(t, name+" goes on", rewritten(t, d, name, append(slices.Clone(right), 0)))
	}
	// One without series is one, too.
	b, e := block.Write(nil)
	ok(t, e)
	y := rewritten(t, rewritten(t, d, "block-1", b), "block-3", b)
	x := opened(t, y)
	if x.Blocks() != 2 || x.Count() != 2 {
		t.Error(x.Blocks(), x.Count())
	}
	told(t, "Compact", x.Compact(), api.OK)
	if x.Blocks() != 1 || x.Count() != 2 {
		t.Error(x.Blocks(), x.Count())
	}
	if z := opened(t, y); z.Blocks() != 1 || z.Count() != 2 {
		t.Error(z.Blocks(), z.Count())
	}
}

// logged tells the bytes of a log of records.
func logged(t *testing.T, recs ...api.Rec) []byte {
	t.Helper()
	d := made(t, large)
	l, _, e := wal.Open(d, "a")
	ok(t, e)
	for _, r := range recs {
		ok(t, l.Append(r))
	}
	b, e := d.Read("a")
	ok(t, e)
	return b
}

func rows(numbers ...int) api.Rec {
	r := api.Rec{Kind: api.RecRows}
	for i := 0; i < len(numbers); i += 2 {
		r.Rows = append(r.Rows, api.Row{Id: numbers[i], Sample: api.Sample{T: numbers[i+1], V: numbers[i+1]}})
	}
	return r
}

func series(words ...string) api.Rec {
	return api.Rec{Kind: api.RecSeries, Labels: set(words...)}
}

func TestOpenLog(t *testing.T) {
	d, m := stored(t)
	c := d.Copy()
	ok(t, c.Remove("wal-4"))
	corrupt(t, "no log", c)
	x, gone := series("a", "x"), api.Rec{Kind: api.RecDelete, Ids: []int{0}, Low: 1, High: 9}
	var full []api.Rec
	for i := range most {
		full = append(full, series("a", fmt.Sprint(i)))
	}
	for _, recs := range [][]api.Rec{{x, x}, {rows(0, 5)}, {x, rows(0, 5, 1, 5)}, {x, rows(0, 5), rows(0, 5)}, {gone}, {x, rows(0, 6), rows(0, 4)}, append(slices.Clone(full), series("a", "more"))} {
		b := logged(t, recs...)
		corrupt(t, brief(recs), rewritten(t, d, "wal-4", b))
		// It is told ahead of what the disk would tell of the mending.
		y := rewritten(t, d, "wal-4", append(b, 1, 2, 3))
		y.Fuse(0)
		corrupt(t, brief(recs), y)
	}
	y := rewritten(t, d, "wal-4", logged(t, full...))
	z := opened(t, y)
	told(t, "a further series", z.Append(pts(pt("more", 9, 9))), api.ErrBig)
	told(t, "Append", z.Append(pts(pt("0", 9, 9))), api.OK)
	// What is not whole is left, and taken away.
	for _, tail := range []string{"\x00", "\x00\x05", "\x00\x01a", "\x00\x00\x00\x00\x00\x00", strings.Repeat("x", 99), string(framed(9)), string(framed(9)) + string(logged(t, x))} {
		b, _ := d.Read("wal-4")
		y := rewritten(t, d, "wal-4", append(slices.Clone(b), tail...))
		ok(t, y.Create("tmp"), y.Append("tmp", []byte("lies about")))
		m.hold(t, y, opened(t, y))
	}
}

// Files that lie about leave the room that they have to a log that is mended.
func TestOpenMendsInRoom(t *testing.T) {
	d := made(t, 300)
	x := opened(t, d)
	m := begun()
	for i := range 5 {
		c := appending(pt("x", i+1, i))
		m, _ = c.model(m)
		ok(t, c.do(x))
	}
	b, _ := d.Read("wal-0")
	ok(t, d.Append("wal-0", []byte{0}), d.Create("block-7"), d.Append("block-7", make([]byte, 300-len(b)-10-9)))
	m.hold(t, d, opened(t, d))
	// Where there is none, it is the disk's error, and nothing is lost.
	ok(t, d.Append("wal-0", []byte{0}), d.Create("other"), d.Append("other", make([]byte, 300-2*len(b)-9)))
	if x, e := tsdb.Open(d); x != nil || e != api.ErrFull {
		t.Error(x, e)
	}
	ok(t, d.Remove("other"))
	m.hold(t, d, opened(t, d))
}

func TestOpenNoPower(t *testing.T) {
	d, m := stored(t)
	for name, y := range map[string]*disk.Disk{"new": made(t, large), "stored": d.Copy()} {
		y.Fuse(0)
		y.Create("c")
		if x, e := tsdb.Open(y); x != nil || e != api.ErrPower {
			t.Error(name, x, e)
		}
	}
	// The power goes where a file that lies about is to be removed, be that all
	// that is to be done, or not.
	y := d.Copy()
	ok(t, y.Create("block-2"), y.Create("tmp"), y.SyncDir())
	for fuse := range 2 {
		z := y.Copy()
		z.Fuse(fuse)
		if x, e := tsdb.Open(z); x != nil || e != api.ErrPower {
			t.Error(fuse, x, e)
		}
	}
	y.Fuse(2)
	m.hold(t, y, opened(t, y))
	ok(t, d.Create("block-2"), d.Create("tmp"), d.Append("wal-4", []byte{0}), d.SyncDir())
	for fuse := range 7 {
		y := d.Copy()
		y.Fuse(fuse)
		if x, e := tsdb.Open(y); x != nil || e != api.ErrPower {
			t.Error(fuse, x, e)
		}
		y.Crash(fuse, []int{1, 2, 3, 4, 5})
		m.hold(t, y, opened(t, y))
	}
	d.Fuse(7)
	m.hold(t, d, opened(t, d))
}

// P14.2

func TestAppendWrong(t *testing.T) {
	nine := make([]api.Label, api.MaxLabels+1)
	nineTimes := func(p api.Point) []api.Point { return slices.Repeat(pts(p), batch+1) }
	wrong := func(l []api.Label, t, v int) api.Point {
		return api.Point{Labels: l, Sample: api.Sample{T: t, V: v}}
	}
	long := strings.Repeat("v", api.MaxWord+1)
	for _, ahead := range [][]call{nil, {appending(pt("x", 10, 1))}, {appending(pt("x", 10, 1)), flushing()}, {appending(pt("x", 10, 1)), flushing(), appending(pt("y", 50, 5), pt("x", 12, 3))}} {
		d, x, m := done(t, append(calls(appending(pt("x", 5, 1), pt("z", 9, 1))), ahead...))
		for _, c := range []struct {
			l []api.Point
			e api.Errno
		}{
			{nil, api.ErrArg}, {pts(), api.ErrArg}, {nineTimes(pt("", 1, 1)), api.ErrBig}, {nineTimes(pt("n", 1, 1)), api.ErrBig},
			{pts(wrong(nine, 90, 1)), api.ErrBig}, {pts(wrong(set("1", "x"), 90, 1)), api.ErrName}, {pts(pt("", 90, 1)), api.ErrArg}, {pts(pt(long, 90, 1)), api.ErrBig}, {pts(wrong(set("b", "x", "a", "x"), 90, 1)), api.ErrOrder}, {pts(wrong(set("a", "x", "a", "x"), 90, 1)), api.ErrOrder},
			{pts(pt("x", -1, 1)), api.ErrOver}, {pts(pt("x", end+1, 1)), api.ErrOver}, {pts(pt("x", 90, top+1)), api.ErrOver}, {pts(pt("x", 90, -top-1)), api.ErrOver}, {pts(pt("new", math.MinInt, math.MaxInt)), api.ErrOver}, {pts(pt("new", 90, math.MinInt)), api.ErrOver},
			{pts(pt("x", 5, 1)), api.ErrOrder}, {pts(pt("x", 4, 1)), api.ErrOrder}, {pts(pt("x", 0, 1)), api.ErrOrder}, {pts(pt("z", 9, 1)), api.ErrOrder}, {pts(pt("z", 1, 1)), api.ErrOrder},
			// Of a point: its labels, then its sample, then its time.
			{pts(pt("", -1, 1)), api.ErrArg}, {pts(wrong(set("1", ""), end+1, 1)), api.ErrName}, {pts(pt("x", 5, top+1)), api.ErrOver},
			// Point by point, as if those ahead were done.
			{pts(pt("n", 1, 1), pt("n", 1, 1)), api.ErrOrder}, {pts(pt("n", 2, 1), pt("m", 3, 1), pt("n", 1, 1)), api.ErrOrder}, {pts(pt("x", 90, 1), pt("x", 90, 1)), api.ErrOrder}, {pts(pt("x", 90, 1), pt("x", 80, 1)), api.ErrOrder}, {pts(pt("x", 90, 1), pt("", 91, 1)), api.ErrArg}, {pts(pt("x", 5, 1), pt("", 91, 1)), api.ErrOrder}, {pts(pt("n", 1, 1), pt("x", -1, 1), pt("n", 1, 1)), api.ErrOver}, {pts(pt("n", end, 1), pt("n", end, 1)), api.ErrOrder},
			{append(slices.Repeat(pts(pt("n", 1, 1)), batch-1), pt("", 1, 1)), api.ErrOrder},
		} {
			if _, want := m.append(c.l); want != c.e {
				t.Fatalf("%s: %d, not %d", brief(c.l), want, c.e)
			}
			if e := x.Append(c.l); e != c.e {
				t.Errorf("%s: %d, not %d", brief(c.l), e, c.e)
			}
		}
		m.hold(t, d, x)
	}
	var none *tsdb.DB
	told(t, "no store", none.Append(pts(pt("x", 1, 1))), api.ErrNil)
	told(t, "no store, no points", none.Append(nil), api.ErrNil)
}

func TestAppend(t *testing.T) {
	eight := set("a", "1", "b", "2", "c", "3", "d", "4", "e", "5", "f", "6", "g", "7", "h", "8")
	at := func(l []api.Label, t, v int) api.Point {
		return api.Point{Labels: l, Sample: api.Sample{T: t, V: v}}
	}
	d, x, m := done(t, nil)
	for _, c := range calls(
		appending(at(nil, 0, 0)), appending(at([]api.Label{}, 1, top)), appending(pt("x", 0, -top), pt("x", end, top)), appending(at(eight, 7, 7), pt("y", 7, 7), at(eight, 8, 8), pt("y", 8, 8)),
		appending(at(set(strings.Repeat("n", 32), strings.Repeat("v", 64)), 5, 5)), appending(at(set("a", "\x00"), 1, 1), at(set("a", "\xff"), 1, 2), at(set("a", `\xff`), 1, 3), at(set("a", `x", b="y`), 1, 4), at(set("a", "x", "b", "y"), 1, 5)),
		flushing(), appending(at(eight, 9, 9), at(eight, 10, 1), pt("y", 9, 1), pt("new", 3, 3)),
	) {
		e := c.do(x)
		var want api.Errno
		if m, want = c.model(m); e != api.OK || want != api.OK {
			t.Fatalf("%s: %d %d", c.name, e, want)
		}
		m.hold(t, d, x)
	}
	var l []api.Point
	for i := range batch {
		l = append(l, pt(fmt.Sprint("v", i%7), 100+i, i))
	}
	ok(t, x.Append(l))
	m, _ = m.append(l)
	m.hold(t, d, x)
}

// The log has a RecSeries for each label set that the head does not have, and
// one RecRows; both are sure.
func TestAppendLog(t *testing.T) {
	d, x := fresh(t)
	steps := []struct {
		l    []api.Point
		recs []api.Rec
	}{
		{pts(pt("y", 5, 5)), []api.Rec{series("a", "y"), rows(0, 5)}},
		{pts(pt("y", 6, 6), pt("y", 7, 7)), []api.Rec{rows(0, 6, 0, 7)}},
		{pts(pt("x", 1, 1), pt("y", 8, 8), pt("b", 2, 2), pt("x", 3, 3)), []api.Rec{series("a", "x"), series("a", "b"), rows(1, 1, 0, 8, 2, 2, 1, 3)}},
		{pts(pt("b", 3, 3), pt("c", 1, 1)), []api.Rec{series("a", "c"), rows(2, 3, 3, 1)}},
	}
	var want []api.Rec
	for _, s := range steps {
		n := d.Done()
		ok(t, x.Append(s.l))
		if d.Done()-n != len(s.recs)+1 {
			t.Errorf("%d changes", d.Done()-n)
		}
		want = append(want, s.recs...)
		c := d.Copy()
		c.Crash(0, nil)
		if _, recs := replayed(t, c, "wal-0"); fmt.Sprint(recs) != fmt.Sprint(want) {
			t.Errorf("%v, not %v", recs, want)
		}
	}
	ok(t, x.Flush(), x.Append(pts(pt("y", 9, 9))))
	if _, recs := replayed(t, d, "wal-2"); fmt.Sprint(recs) != fmt.Sprint([]api.Rec{series("a", "y"), rows(0, 9)}) {
		t.Error(recs)
	}
	// A series without samples is one that the head has.
	ok(t, x.Delete(is("y"), 9, 9), x.Append(pts(pt("y", 9, 1))))
	want = []api.Rec{series("a", "y"), rows(0, 9), {Kind: api.RecDelete, Ids: []int{0}, Low: 9, High: 9}, {Kind: api.RecRows, Rows: []api.Row{{Id: 0, Sample: api.Sample{T: 9, V: 1}}}}}
	if _, recs := replayed(t, opened2(t, d), "wal-2"); fmt.Sprint(recs) != fmt.Sprint(want) {
		t.Error(recs)
	}
}

// opened2 tells a copy of a disk whose store was opened anew.
func opened2(t *testing.T, d *disk.Disk) *disk.Disk {
	t.Helper()
	c := d.Copy()
	opened(t, c)
	return c
}

// The last time is that of all that is told: a block's, if the head has none.
func TestAppendOrder(t *testing.T) {
	d, x, m := done(t, calls(appending(pt("x", 10, 1), pt("y", 99, 1)), flushing(), appending(pt("x", 20, 2)), flushing(), appending(pt("y", 100, 2)), flushing(), appending(pt("x", 30, 3))))
	step := func(c call, want api.Errno) {
		t.Helper()
		next, e := c.model(m)
		told(t, c.name, c.do(x), want)
		told(t, c.name, e, want)
		m = next
		m.hold(t, d, x)
	}
	step(appending(pt("x", 30, 0)), api.ErrOrder)
	step(deleting(is("x"), 30, 30), api.OK)
	step(appending(pt("x", 20, 0)), api.ErrOrder)
	step(appending(pt("x", 21, 0)), api.OK)
	step(deleting(is("x"), 20, 21), api.OK)
	step(appending(pt("x", 10, 0)), api.ErrOrder)
	step(appending(pt("x", 11, 0), pt("y", 100, 0)), api.ErrOrder)
	step(appending(pt("x", 11, 0), pt("y", 101, 0)), api.OK)
	step(retaining(101), api.OK)
	step(appending(pt("x", 0, 0)), api.OK)
	step(appending(pt("y", 101, 0)), api.ErrOrder)
	step(deleting(is("y"), 0, end), api.OK)
	step(appending(pt("y", 0, 0)), api.OK)
}

func TestAppendMostSeries(t *testing.T) {
	d, x, m := done(t, nil)
	for i := 0; i < most-2; i += 2 {
		c := appending(pt(fmt.Sprint(i), 1, 1), pt(fmt.Sprint(i+1), 1, 1))
		m, _ = c.model(m)
		ok(t, c.do(x))
	}
	step := func(c call, want api.Errno) {
		t.Helper()
		next, e := c.model(m)
		told(t, c.name, c.do(x), want)
		told(t, c.name, e, want)
		m = next
	}
	step(appending(pt("m", 1, 1), pt("n", 1, 1), pt("o", 1, 1)), api.ErrBig)
	step(appending(pt("m", 1, 1), pt("m", 2, 1), pt("m", 3, 1), pt("0", 2, 1)), api.OK)
	step(appending(pt("n", 1, 1), pt("o", 1, 1)), api.ErrBig)
	step(appending(pt("n", 1, 1)), api.OK)
	// A sample that may not be is told ahead of it, a time behind it.
	step(appending(pt("o", -1, 1)), api.ErrOver)
	step(appending(pt("o", 1, 1), pt("0", 0, 0)), api.ErrBig)
	step(appending(pt("0", 0, 0), pt("o", 1, 1)), api.ErrOrder)
	step(appending(pt("0", 3, 3), pt("n", 2, 2)), api.OK)
	m.hold(t, d, x)
	// Of a label set that a block has, too, none has the head: it has no room.
	step(deleting(is("1"), 0, end), api.OK)
	step(appending(pt("o", 1, 1)), api.ErrBig)
	step(appending(pt("1", 0, 1)), api.OK)
	step(flushing(), api.OK)
	step(appending(pt("o", 1, 1), pt("1", 1, 1)), api.OK)
	m.hold(t, d, x)
}

func TestAppendMostPoints(t *testing.T) {
	d, e := disk.New(api.MaxRoom)
	ok(t, e)
	x := opened(t, d)
	for i := 0; i < points; i += batch {
		var l []api.Point
		for k := range batch {
			l = append(l, pt(fmt.Sprint("v", k%3), i+k, i))
		}
		if i+batch == points {
			told(t, "all but one, and two", x.Append(append(slices.Clone(l[:batch-2]), pt("w", 1, 1), pt("w", 2, 2))), api.OK)
			continue
		}
		ok(t, x.Append(l))
	}
	if x.Count() != points {
		t.Error(x.Count())
	}
	told(t, "one more", x.Append(pts(pt("v0", points*2, 1))), api.ErrBig)
	told(t, "of an early time", x.Append(pts(pt("v0", 0, 1))), api.ErrBig)
	told(t, "of a wrong time", x.Append(pts(pt("v0", -1, 1))), api.ErrOver)
	// What is gone leaves room for as much.
	ok(t, x.Delete(is("w"), 2, 2))
	told(t, "two for one", x.Append(pts(pt("w", 3, 1), pt("w", 4, 1))), api.ErrBig)
	told(t, "one for one", x.Append(pts(pt("w", 3, 1))), api.OK)
	y := opened(t, d.Copy())
	if y.Count() != points {
		t.Error(y.Count())
	}
	ok(t, x.Flush(), x.Append(pts(pt("w", 5, 1))), x.Flush())
	if x.Blocks() != 2 || x.Count() != points+1 {
		t.Error(x.Blocks(), x.Count())
	}
	told(t, "Compact", x.Compact(), api.ErrBig)
	if x.Blocks() != 2 || x.Count() != points+1 || opened(t, d.Copy()).Count() != points+1 {
		t.Error(x.Blocks(), x.Count())
	}
	ok(t, x.Delete(is("w"), 5, 5), x.Compact())
	if x.Blocks() != 1 || x.Count() != points {
		t.Error(x.Blocks(), x.Count())
	}
}

// P14.3

func TestDeleteWrong(t *testing.T) {
	for _, ahead := range [][]call{nil, {appending(pt("x", 5, 1))}, {appending(pt("x", 5, 1)), flushing(), appending(pt("x", 6, 1))}} {
		d, x, m := done(t, ahead)
		n := d.Done()
		for _, c := range []struct {
			ms        []api.Matcher
			low, high int
			e         api.Errno
		}{
			{nil, 0, 9, api.ErrArg}, {is(""), 0, 9, api.ErrArg}, {[]api.Matcher{ask(9, "a", "x")}, 0, 9, api.ErrArg}, {[]api.Matcher{ask(api.Eq, "1", "x")}, 0, 9, api.ErrName}, {[]api.Matcher{ask(api.Re, "a", "(")}, 0, 9, api.ErrSyntax}, {slices.Repeat(is("x"), 9), 0, 9, api.ErrBig},
			{is("x"), -1, 9, api.ErrOver}, {is("x"), 0, end + 1, api.ErrOver}, {is("x"), math.MinInt, math.MaxInt, api.ErrOver}, {is("x"), 9, -1, api.ErrOrder}, {is("x"), 6, 5, api.ErrOrder}, {is("x"), end + 1, 5, api.ErrOrder},
			{nil, -1, 9, api.ErrArg}, {is("x"), -1, -2, api.ErrOver}, {is("x"), end + 2, end + 1, api.ErrOver},
		} {
			if e := x.Delete(c.ms, c.low, c.high); e != c.e {
				t.Errorf("%v %d %d: %d, not %d", c.ms, c.low, c.high, e, c.e)
			}
		}
		for _, low := range []int{-1, end + 1, math.MinInt, math.MaxInt} {
			told(t, "Retain", x.Retain(low), api.ErrOver)
		}
		told(t, "Retain of all", x.Retain(0), api.OK)
		if d.Done() != n {
			t.Error(d.Done() - n)
		}
		m.hold(t, d, x)
	}
	var none *tsdb.DB
	told(t, "no store", none.Delete(nil, -1, -2), api.ErrNil)
	told(t, "no store", none.Retain(-1), api.ErrNil)
}

// What the head alone has is gone by a record, and nothing by none.
func TestDeleteInLog(t *testing.T) {
	ahead := calls(appending(pt("x", 1, 1), pt("y", 2, 1)), flushing(), appending(pt("x", 10, 1), pt("z", 11, 1), pt("x", 12, 1), pt("y", 13, 1)))
	for _, c := range []struct {
		call call
		ids  []int
		low  int
		high int
	}{
		{deleting(is("x"), 10, 10), []int{0}, 10, 10}, {deleting(is("x"), 2, end), []int{0}, 2, end}, {deleting(some(), 11, 12), []int{0, 1}, 11, 12}, {deleting(is("z"), 0, end), []int{1}, 0, end}, {deleting([]api.Matcher{ask(api.Nr, "a", "x?")}, 3, 99), []int{1, 2}, 3, 99},
		{deleting(is("x"), 11, 11), nil, 0, 0}, {deleting(is("x"), 13, end), nil, 0, 0}, {deleting(is("y"), 3, 12), nil, 0, 0}, {deleting(is("none"), 0, end), nil, 0, 0}, {retaining(1), nil, 0, 0}, {deleting(is("z"), 0, 10), nil, 0, 0},
	} {
		d, x, m := done(t, ahead)
		_, recs := replayed(t, d, "wal-2")
		n := d.Done()
		told(t, c.call.name, c.call.do(x), api.OK)
		m, _ = c.call.model(m)
		m.hold(t, d, x)
		changes := 0
		if len(c.ids) > 0 {
			recs = append(recs, api.Rec{Kind: api.RecDelete, Ids: c.ids, Low: c.low, High: c.high})
			changes = 2
		}
		if _, l := replayed(t, d, "wal-2"); fmt.Sprint(l) != fmt.Sprint(recs) || d.Done()-n != changes {
			t.Errorf("%s: %v, not %v, %d changes", c.call.name, l, recs, d.Done()-n)
		}
		// Once more, and nothing is there to be gone.
		n = d.Done()
		told(t, c.call.name, c.call.do(x), api.OK)
		if d.Done() != n {
			t.Error(c.call.name, d.Done()-n)
		}
	}
	// All of a store without blocks, by Retain.
	d, x, m := done(t, calls(appending(pt("x", 10, 1), pt("z", 11, 1), pt("x", 12, 1))))
	ok(t, x.Retain(12))
	m, _ = m.retain(12)
	m.hold(t, d, x)
	if _, l := replayed(t, d, "wal-0"); fmt.Sprint(l[3:]) != fmt.Sprint([]api.Rec{{Kind: api.RecDelete, Ids: []int{0, 1}, Low: 0, High: 11}}) {
		t.Error(l)
	}
}

// What a block has is gone by a change of files: each such block becomes a new
// one, in its place, and the head the last one.
func TestDeleteInBlocks(t *testing.T) {
	blocks := calls(appending(pt("x", 1, 1), pt("y", 2, 2)), flushing(), appending(pt("y", 3, 3)), flushing(), appending(pt("x", 4, 4), pt("z", 5, 5)), flushing())
	emptied := calls(appending(pt("x", 6, 6)), deleting(is("x"), 6, 6))
	for _, h := range [][]call{nil, {appending(pt("x", 6, 6), pt("y", 7, 7))}, emptied} {
		ahead := append(slices.Clone(blocks), h...)
		for _, c := range []struct {
			call    call
			numbers string // without a head; with one that has samples
		}{
			{deleting(is("x"), 1, 1), "[7 3 5] 8, [7 3 5 8] 10"}, {deleting(is("x"), 1, 4), "[7 3 8] 9, [7 3 8 9] 11"}, {deleting(is("y"), 0, 3), "[7 5] 8, [7 5 8] 10"}, {deleting(is("y"), 3, 9), "[1 5] 7, [1 5 7] 9"}, {deleting(some(), 2, 4), "[7 8] 9, [7 8 9] 11"},
			{deleting(some(), 0, end), "[] 7, [] 8"}, {deleting(is("z"), 5, 5), "[1 3 7] 8, [1 3 7 8] 10"}, {retaining(2), "[7 3 5] 8, [7 3 5 8] 10"}, {retaining(5), "[7] 8, [7 8] 10"}, {retaining(end), "[] 7, [] 8"}, {retaining(6), "[] 7, [7] 9"}, {deleting(some(), 1, 1), "[7 3 5] 8, [7 3 5 8] 10"},
		} {
			d, x, m := done(t, ahead)
			want := strings.Split(c.numbers, ", ")[min(m.head.count(), 1)]
			told(t, c.call.name, c.call.do(x), api.OK)
			m, _ = c.call.model(m)
			m.hold(t, d, x)
			if s := fmt.Sprintf("%v %d", m.numbers, m.next); s != want {
				t.Errorf("%s: %s, not %s", c.call.name, s, want)
			}
		}
	}
}

// P14.4

func TestFlush(t *testing.T) {
	var none *tsdb.DB
	told(t, "no store", none.Flush(), api.ErrNil)
	d, x, m := done(t, nil)
	for i, c := range calls(flushing(), appending(pt("y", 1, 1), pt("x", 2, 2)), flushing(), flushing(), appending(pt("x", 3, 3)), deleting(is("x"), 3, 3), flushing(), appending(pt("x", 3, 3)), flushing()) {
		n := d.Done()
		told(t, c.name, c.do(x), api.OK)
		m, _ = c.model(m)
		m.hold(t, d, x)
		if (i == 0 || i == 3 || i == 6) && d.Done() != n {
			t.Error(i, d.Done()-n)
		}
	}
	if !slices.Equal(m.numbers, []int{1, 3}) || m.log != 4 || m.next != 5 {
		t.Error(m)
	}
}

func TestCompact(t *testing.T) {
	var none *tsdb.DB
	told(t, "no store", none.Compact(), api.ErrNil)
	d, x, m := done(t, nil)
	for i, c := range calls(compacting(), appending(pt("y", 1, 1), pt("x", 2, 2)), compacting(), flushing(), compacting(), appending(pt("x", 3, 3), pt("a", 9, 9)), flushing(), appending(pt("x", 4, 4)), compacting(), compacting(), flushing(), compacting()) {
		n := d.Done()
		told(t, c.name, c.do(x), api.OK)
		m, _ = c.model(m)
		m.hold(t, d, x)
		if slices.Contains([]int{0, 2, 4, 9}, i) && d.Done() != n {
			t.Error(i, d.Done()-n)
		}
	}
	if !slices.Equal(m.numbers, []int{8}) || m.log != 7 || m.next != 9 {
		t.Error(m)
	}
}

// Blocks that would be one of too many series stay as they are.
func TestCompactBig(t *testing.T) {
	d, x, m := done(t, nil)
	step := func(c call, want api.Errno) {
		t.Helper()
		next, e := c.model(m)
		told(t, c.name, c.do(x), want)
		told(t, c.name, e, want)
		m = next
	}
	for i := range 256 {
		step(appending(pt(fmt.Sprint(i), 1, i)), api.OK)
	}
	step(flushing(), api.OK)
	step(appending(pt("5", 2, 2), pt("more", 2, 2)), api.OK)
	step(flushing(), api.OK)
	n := d.Done()
	step(compacting(), api.ErrBig)
	if d.Done() != n {
		t.Error(d.Done() - n)
	}
	m.hold(t, d, x)
	step(deleting(is("255"), 1, 1), api.OK)
	step(compacting(), api.OK)
	m.hold(t, d, x)
}

// P14.5

func TestSelectWrong(t *testing.T) {
	var none *tsdb.DB
	if l, e := none.Select(is("x"), 0, 9); len(l) != 0 || e != api.ErrNil || none.Blocks() != 0 || none.Count() != 0 {
		t.Error(l, e, none.Blocks(), none.Count())
	}
	if l, e := none.Select(nil, 0, 9); len(l) != 0 || e != api.ErrNil {
		t.Error(l, e)
	}
	_, x, _ := done(t, calls(appending(pt("x", 5, 1)), flushing(), appending(pt("x", 6, 1))))
	for _, c := range []struct {
		ms []api.Matcher
		e  api.Errno
	}{
		{nil, api.ErrArg}, {is(""), api.ErrArg}, {[]api.Matcher{ask(9, "a", "x")}, api.ErrArg}, {[]api.Matcher{ask(api.Ne, "a", "x")}, api.ErrArg}, {[]api.Matcher{ask(api.Eq, "1", "x")}, api.ErrName}, {[]api.Matcher{ask(api.Re, "a", "(")}, api.ErrSyntax}, {slices.Repeat(is("x"), 9), api.ErrBig},
	} {
		if l, e := x.Select(c.ms, 0, 9); len(l) != 0 || e != c.e {
			t.Errorf("%v: %v %d, not %d", c.ms, l, e, c.e)
		}
	}
}

func TestSelect(t *testing.T) {
	both := api.Point{Labels: set("a", "x", "b", "y"), Sample: api.Sample{T: 4, V: 4}}
	_, x, m := done(t, calls(appending(pt("y", 1, 1), pt("x", 2, 2)), flushing(), appending(pt("x", 3, 3), both), flushing(), appending(pt("x", 4, 4), pt("w", 1, 1), pt("y", 9, 9))))
	for _, c := range []struct {
		ms        []api.Matcher
		low, high int
		want      string
	}{
		{is("x"), 0, 99, `[{[{a x}] [{2 2} {3 3} {4 4}]} {[{a x} {b y}] [{4 4}]}]`},
		{some(), 0, 99, `[{[{a w}] [{1 1}]} {[{a x}] [{2 2} {3 3} {4 4}]} {[{a x} {b y}] [{4 4}]} {[{a y}] [{1 1} {9 9}]}]`},
		{some(), 2, 3, `[{[{a x}] [{2 2} {3 3}]}]`}, {some(), 4, 4, `[{[{a x}] [{4 4}]} {[{a x} {b y}] [{4 4}]}]`}, {some(), 5, 8, `[]`}, {some(), 3, 2, `[]`}, {some(), math.MaxInt, math.MinInt, `[]`}, {is("y"), math.MinInt, math.MaxInt, `[{[{a y}] [{1 1} {9 9}]}]`}, {is("y"), -9, 0, `[]`}, {is("z"), 0, 99, `[]`},
		{append(is("x"), ask(api.Ne, "b", "")), 0, 99, `[{[{a x} {b y}] [{4 4}]}]`},
	} {
		if l, e := x.Select(c.ms, c.low, c.high); e != api.OK || fmt.Sprint(l) != c.want {
			t.Errorf("%v from %d to %d: %v %d, not %s", c.ms, c.low, c.high, l, e, c.want)
		}
	}
	// What is told is new memory each time, and what is handed in is not kept.
	l, _ := x.Select(some(), 0, 99)
	for _, s := range l {
		s.Labels[0] = api.Label{Name: "q", Value: "q"}
		for i := range s.Samples {
			s.Samples[i] = api.Sample{T: 77, V: 77}
		}
		_ = append(s.Samples, api.Sample{})
		_ = append(s.Labels, api.Label{})
	}
	if s := m.differs(x); s != "" {
		t.Error(s)
	}
}

func TestHandedIn(t *testing.T) {
	d, x, m := done(t, nil)
	l := make([]api.Point, 4)
	copy(l, pts(pt("x", 5, 5), pt("y", 6, 6)))
	l[2], l[3] = pt("q", 1, 1), pt("q", 2, 2)
	words := make([]api.Label, 2)
	words[0], words[1] = api.Label{Name: "a", Value: "w"}, api.Label{Name: "b", Value: "w"}
	l[1].Labels = words[:1]
	ahead := fmt.Sprint(l, words)
	m, _ = m.append(l[:2])
	ok(t, x.Append(l[:2]))
	if fmt.Sprint(l, words) != ahead {
		t.Error(l, words)
	}
	words[0].Value = "changed"
	l[0].Labels[0].Value = "changed"
	m.hold(t, d, x)
	ms := make([]api.Matcher, 2)
	ms[0], ms[1] = ask(api.Eq, "a", "w"), ask(api.Eq, "a", "q")
	if l, e := x.Select(ms[:1], 0, 9); e != api.OK || len(l) != 1 || ms[1].Value != "q" {
		t.Error(l, e, ms)
	}
	m, _ = m.delete(ms[:1], 0, 9)
	ok(t, x.Delete(ms[:1], 0, 9))
	if ms[0].Value != "w" || ms[1].Value != "q" {
		t.Error(ms)
	}
	ms[0].Value = "x"
	m.hold(t, d, x)
}

// P14.7, P14.8, and all promises at once: a store against its model.
func TestAgainstModel(t *testing.T) {
	for seed := range 60 {
		next := mixed(seed)
		d, x, m := done(t, nil)
		for i := range 60 {
			c := drawn(next)
			told, _ := x.Select(some(), 0, end)
			e := c.do(x)
			after, want := c.model(m)
			if e != want {
				t.Fatalf("%d, %d, %s: %d, not %d", seed, i, c.name, e, want)
			}
			m = after
			m.hold(t, d, x)
			if c.name == "Flush" || c.name == "Compact" {
				if l, _ := x.Select(some(), 0, end); !same(l, told) {
					t.Fatalf("%d, %d, %s: %v, not %v", seed, i, c.name, l, told)
				}
			}
			if next(9) == 0 {
				x = opened(t, d)
			}
		}
	}
}
