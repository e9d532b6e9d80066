package tsdb_test

import (
	"bytes"
	"encoding/binary"
	"fmt"
	"hash/crc32"
	"maps"
	"slices"
	"testing"

	"gauge/api"
	"gauge/block"
	"gauge/disk"
	"gauge/frame"
	"gauge/head"
	"gauge/label"
	"gauge/matcher"
	"gauge/tsdb"
	"gauge/wal"
)

const (
	end    = api.MaxTime   // the last time
	top    = api.MaxVal    // the greatest value
	most   = api.MaxSeries // of a block's, or a head's, series
	points = api.MaxPoints // of a block's, or a head's, samples
	batch  = api.MaxBatch  // of an Append's points
	large  = 1 << 20       // the room of a disk that has enough of it
)

// set tells labels of names and values, one behind the other.
func set(words ...string) []api.Label {
	var l []api.Label
	for i := 0; i < len(words); i += 2 {
		l = append(l, api.Label{Name: words[i], Value: words[i+1]})
	}
	return l
}

// pt tells a point of {a=value}.
func pt(value string, t, v int) api.Point {
	return api.Point{Labels: set("a", value), Sample: api.Sample{T: t, V: v}}
}

// pts tells points in one list.
func pts(l ...api.Point) []api.Point {
	return l
}

// ask tells a matcher.
func ask(kind int, name, value string) api.Matcher {
	return api.Matcher{Kind: kind, Name: name, Value: value}
}

// is tells the matchers that {a=value} fits.
func is(value string) []api.Matcher {
	return []api.Matcher{ask(api.Eq, "a", value)}
}

// some are matchers that each set with a label a fits.
func some() []api.Matcher {
	return []api.Matcher{ask(api.Ne, "a", "")}
}

// brief tells something in few bytes, however long it is.
func brief(x any) string {
	return fmt.Sprintf("%.300s", fmt.Sprintf("%v", x))
}

// mixed tells numbers that look mixed, and are the same each time.
func mixed(seed int) func(n int) int {
	u := uint64(seed)*7919 + 88172645463325252
	return func(n int) int {
		u ^= u << 13
		u ^= u >> 7
		u ^= u << 17
		return int((u >> 8) % uint64(n))
	}
}

// ok looks whether all calls told OK.
func ok(t *testing.T, l ...api.Errno) {
	t.Helper()
	for i, e := range l {
		if e != api.OK {
			t.Fatalf("call %d: %d", i, e)
		}
	}
}

// told looks whether a call told what it should.
func told(t *testing.T, what string, e, want api.Errno) {
	t.Helper()
	if e != want {
		t.Errorf("%s: %d, not %d", what, e, want)
	}
}

// made tells a disk with so much room.
func made(t *testing.T, room int) *disk.Disk {
	t.Helper()
	d, e := disk.New(room)
	if e != api.OK {
		t.Fatal(e)
	}
	return d
}

// opened tells the store of a disk.
func opened(t *testing.T, d *disk.Disk) *tsdb.DB {
	t.Helper()
	x, e := tsdb.Open(d)
	if e != api.OK || x == nil {
		t.Fatalf("Open: %d", e)
	}
	return x
}

// fresh tells a new disk with enough room, and its store.
func fresh(t *testing.T) (*disk.Disk, *tsdb.DB) {
	t.Helper()
	d := made(t, large)
	return d, opened(t, d)
}

// A content is the samples of label sets: by their texts, values by times.
type content map[string]map[int]int

// contentOf tells the content of series.
func contentOf(l []api.Series) content {
	c := content{}
	for _, s := range l {
		c[label.Print(s.Labels)] = map[int]int{}
		for _, x := range s.Samples {
			c[label.Print(s.Labels)][x.T] = x.V
		}
	}
	return c
}

// copied tells a content that goes on by itself.
func (c content) copied() content {
	other := content{}
	for text, l := range c {
		other[text] = maps.Clone(l)
	}
	return other
}

// count tells how many samples there are.
func (c content) count() int {
	n := 0
	for _, l := range c {
		n += len(l)
	}
	return n
}

// series tells those that have a sample, by rising label sets.
func (c content) series() []api.Series {
	var l []api.Series
	for text, values := range c {
		s := api.Series{}
		s.Labels, _ = label.Parse(text)
		for _, at := range slices.Sorted(maps.Keys(values)) {
			s.Samples = append(s.Samples, api.Sample{T: at, V: values[at]})
		}
		if len(values) > 0 {
			l = append(l, s)
		}
	}
	slices.SortFunc(l, func(a, b api.Series) int { return label.Compare(a.Labels, b.Labels) })
	return l
}

// left tells the content without some, and whether there was any of it. What
// has nothing left is left out, unless it is to stay empty.
func (c content) left(fits func(l []api.Label) bool, low, high int, empty bool) (content, bool) {
	other := c.copied()
	for text, l := range other {
		labels, _ := label.Parse(text)
		if fits(labels) {
			maps.DeleteFunc(l, func(at, v int) bool { return at >= low && at <= high })
		}
		if len(l) == 0 && !empty {
			delete(other, text)
		}
	}
	return other, other.count() < c.count()
}

// A model is what a store should be: the tests' own way.
type model struct {
	next, log int
	numbers   []int // of the blocks
	blocks    []content
	head      content // its series without samples, too
}

// begun tells the model of a new store.
func begun() model {
	return model{next: 1, head: content{}}
}

// all tells what is told.
func (m model) all() content {
	c := m.head.copied()
	for _, b := range m.blocks {
		for text, l := range b {
			if c[text] == nil {
				c[text] = map[int]int{}
			}
			maps.Copy(c[text], l)
		}
	}
	return c
}

// last tells the last time of a label set, by its text.
func (m model) last(text string) int {
	last := -1
	for _, c := range append([]content{m.head}, m.blocks...) {
		for at := range c[text] {
			last = max(last, at)
		}
	}
	return last
}

func (m model) append(l []api.Point) (model, api.Errno) {
	if len(l) == 0 {
		return m, api.ErrArg
	}
	if len(l) > 64 {
		return m, api.ErrBig
	}
	c := m
	c.head = m.head.copied()
	n := c.head.count()
	for _, p := range l {
		if e := label.Check(p.Labels); e != api.OK {
			return m, e
		}
		if p.Sample.T < 0 || p.Sample.T > 1<<40 || p.Sample.V < -1<<60 || p.Sample.V > 1<<60 {
			return m, api.ErrOver
		}
		text := label.Print(p.Labels)
		if c.head[text] == nil && len(c.head) == 256 || n == 65536 {
			return m, api.ErrBig
		}
		if p.Sample.T <= c.last(text) {
			return m, api.ErrOrder
		}
		if c.head[text] == nil {
			c.head[text] = map[int]int{}
		}
		c.head[text][p.Sample.T] = p.Sample.V
		n++
	}
	return c, api.OK
}

// take has a new block stand behind all.
func (m *model) take(c content) {
	m.numbers = append(slices.Clone(m.numbers), m.next)
	m.blocks = append(slices.Clone(m.blocks), c)
	m.next++
}

// renew begins a new log.
func (m *model) renew() {
	m.log = m.next
	m.next++
	m.head = content{}
}

func (m model) delete(ms []api.Matcher, low, high int) (model, api.Errno) {
	if e := matcher.CheckAll(ms); e != api.OK {
		return m, e
	}
	if low < 0 || high > 1<<40 {
		return m, api.ErrOver
	}
	if low > high {
		return m, api.ErrOrder
	}
	return m.remove(func(l []api.Label) bool { return matcher.All(ms, l) }, low, high), api.OK
}

func (m model) retain(low int) (model, api.Errno) {
	if low < 0 || low > 1<<40 {
		return m, api.ErrOver
	}
	return m.remove(func(l []api.Label) bool { return true }, 0, low-1), api.OK
}

func (m model) remove(fits func(l []api.Label) bool, low, high int) model {
	c := model{next: m.next, log: m.log, head: m.head}
	any := false
	for i, b := range m.blocks {
		left, had := b.left(fits, low, high, false)
		any = any || had
		switch {
		case !had:
			c.numbers, c.blocks = append(c.numbers, m.numbers[i]), append(c.blocks, b)
		case len(left) > 0:
			c.take(left)
		}
	}
	if !any {
		c.head, _ = m.head.left(fits, low, high, true)
		return c
	}
	if m.head.count() > 0 {
		if left, _ := m.head.left(fits, low, high, false); len(left) > 0 {
			c.take(left)
		}
		c.renew()
	}
	return c
}

func (m model) flush() (model, api.Errno) {
	if m.head.count() == 0 {
		return m, api.OK
	}
	left, _ := m.head.left(func([]api.Label) bool { return false }, 0, 0, false)
	m.take(left)
	m.renew()
	return m, api.OK
}

func (m model) compact() (model, api.Errno) {
	if len(m.blocks) < 2 {
		return m, api.OK
	}
	whole := model{head: content{}, blocks: m.blocks}.all()
	if len(whole) > 256 || whole.count() > 65536 {
		return m, api.ErrBig
	}
	c := model{next: m.next, log: m.log, head: m.head}
	c.take(whole)
	return c, api.OK
}

// find tells what Select should, of all series that are told.
func find(all []api.Series, ms []api.Matcher, low, high int) []api.Series {
	var l []api.Series
	for _, s := range all {
		if !matcher.All(ms, s.Labels) {
			continue
		}
		var kept []api.Sample
		for _, x := range s.Samples {
			if x.T >= low && x.T <= high {
				kept = append(kept, x)
			}
		}
		if len(kept) > 0 {
			l = append(l, api.Series{Labels: s.Labels, Samples: kept})
		}
	}
	return l
}

// framed tells the frame of numbers: the tests' own way.
func framed(numbers ...int) []byte {
	b := []byte{0, 0}
	for _, n := range numbers {
		b = binary.AppendUvarint(b, uint64(n))
	}
	binary.BigEndian.PutUint16(b, uint16(len(b)-2))
	return binary.LittleEndian.AppendUint32(b, crc32.Checksum(b, crc32.MakeTable(crc32.Castagnoli)))
}

// manifest tells what should stand in that file.
func (m model) manifest() []byte {
	return framed(append([]int{m.next, m.log, len(m.numbers)}, m.numbers...)...)
}

// names tells the files that there should be.
func (m model) names() []string {
	l := []string{"manifest", fmt.Sprint("wal-", m.log)}
	for _, n := range m.numbers {
		l = append(l, fmt.Sprint("block-", n))
	}
	slices.Sort(l)
	return l
}

// same tells whether two lists have the same series.
func same(a, b []api.Series) bool {
	return slices.EqualFunc(a, b, func(x, y api.Series) bool {
		return slices.Equal(x.Labels, y.Labels) && slices.Equal(x.Samples, y.Samples)
	})
}

// questions are matchers that some of the tests' series fit: the first ones
// ask all of them together.
func questions() [][]api.Matcher {
	return [][]api.Matcher{
		some(), {ask(api.Eq, "a", ""), ask(api.Re, "b", ".+")}, is("x"), {ask(api.Re, "a", "x|y.*"), ask(api.Eq, "b", "")}, {ask(api.Nr, "a", "x?")}, {ask(api.Ne, "b", ""), ask(api.Ne, "a", "x")}, is("none"),
	}
}

// differs tells where what a store tells is not what a model says: nothing, if
// nowhere.
func (m model) differs(x *tsdb.DB) string {
	all := m.all()
	if n, c := x.Blocks(), x.Count(); n != len(m.blocks) || c != all.count() {
		return fmt.Sprintf("%d blocks and %d samples, not %d and %d", n, c, len(m.blocks), all.count())
	}
	series := all.series()
	for i, ms := range questions() {
		ranges := [][2]int{{0, end}, {10, 30}, {25, 25}, {-5, 12}, {30, 29}, {40, end + 9}}
		if i > 1 {
			ranges = ranges[i%2 : i%2+1]
		}
		for _, r := range ranges {
			want := find(series, ms, r[0], r[1])
			if l, e := x.Select(ms, r[0], r[1]); e != api.OK || !same(l, want) {
				return fmt.Sprintf("%v from %d to %d: %s %d, not %s", ms, r[0], r[1], brief(l), e, brief(want))
			}
		}
	}
	return ""
}

// replayed tells the head that the log of a store is, and of how many records.
func replayed(t *testing.T, d *disk.Disk, name string) (*head.Head, []api.Rec) {
	t.Helper()
	b, e := d.Read(name)
	if e != api.OK {
		t.Fatalf("%s: %d", name, e)
	}
	h := head.New()
	all, at := frame.All(b)
	var recs []api.Rec
	for _, x := range all {
		r, e := wal.Of(x)
		if e != api.OK || h.Do(r) != api.OK {
			t.Fatalf("a record of %s: %s %d", name, brief(r), e)
		}
		recs = append(recs, r)
	}
	if at != len(b) {
		t.Fatalf("%s is whole up to %d of %d", name, at, len(b))
	}
	return h, recs
}

// filed looks whether a disk's files are just those that a model says; others
// are those that may stand there beside them.
func (m model) filed(t *testing.T, d *disk.Disk, others ...string) {
	t.Helper()
	names := slices.DeleteFunc(d.List(), func(name string) bool { return slices.Contains(others, name) })
	if !slices.Equal(names, m.names()) {
		t.Fatalf("files %q, not %q", names, m.names())
	}
	if b, e := d.Read("manifest"); e != api.OK || !bytes.Equal(b, m.manifest()) {
		t.Fatalf("manifest %x %d, not %x", b, e, m.manifest())
	}
	for i, n := range m.numbers {
		want, e := block.Write(m.blocks[i].series())
		if b, r := d.Read(fmt.Sprint("block-", n)); e != api.OK || r != api.OK || !bytes.Equal(b, want) {
			t.Fatalf("block %d: %d bytes %d, not %d", n, len(b), r, len(want))
		}
	}
	h, _ := replayed(t, d, fmt.Sprint("wal-", m.log))
	if h.Len() != len(m.head) || !same(h.Series(), m.head.series()) {
		t.Fatalf("log %d: %d series, %s, not %d, %s", m.log, h.Len(), brief(h.Series()), len(m.head), brief(m.head.series()))
	}
}

// hold holds a store and its disk against a model, and what is opened anew, with
// or without a crash.
func (m model) hold(t *testing.T, d *disk.Disk, x *tsdb.DB) {
	t.Helper()
	if s := m.differs(x); s != "" {
		t.Fatal(s)
	}
	m.filed(t, d)
	if s := m.differs(opened(t, d.Copy())); s != "" {
		t.Fatal("anew: " + s)
	}
	for n := range 3 {
		c := d.Copy()
		c.Crash(n, []int{n, n, n, n})
		if s := m.differs(opened(t, c)); s != "" {
			t.Fatalf("behind crash %d: %s", n, s)
		}
		m.filed(t, c)
	}
}

// A call is one on a store, and what it should do.
type call struct {
	name  string
	do    func(x *tsdb.DB) api.Errno
	model func(m model) (model, api.Errno)
}

func appending(l ...api.Point) call {
	return call{brief(l), func(x *tsdb.DB) api.Errno { return x.Append(l) }, func(m model) (model, api.Errno) { return m.append(l) }}
}

func deleting(ms []api.Matcher, low, high int) call {
	return call{fmt.Sprint("Delete ", ms, low, high), func(x *tsdb.DB) api.Errno { return x.Delete(ms, low, high) }, func(m model) (model, api.Errno) { return m.delete(ms, low, high) }}
}

func retaining(low int) call {
	return call{fmt.Sprint("Retain ", low), func(x *tsdb.DB) api.Errno { return x.Retain(low) }, func(m model) (model, api.Errno) { return m.retain(low) }}
}

func flushing() call {
	return call{"Flush", (*tsdb.DB).Flush, model.flush}
}

func compacting() call {
	return call{"Compact", (*tsdb.DB).Compact, model.compact}
}

// calls tells calls in one list.
func calls(l ...call) []call {
	return l
}

// done tells a disk, its store and its model behind calls that tell OK.
func done(t *testing.T, l []call) (*disk.Disk, *tsdb.DB, model) {
	t.Helper()
	d, x := fresh(t)
	m := begun()
	for _, c := range l {
		e := c.do(x)
		var want api.Errno
		if m, want = c.model(m); e != api.OK || want != api.OK {
			t.Fatalf("%s: %d %d", c.name, e, want)
		}
	}
	return d, x, m
}

// drawn tells a call that may be refused, or not.
func drawn(next func(int) int) call {
	sets := [][]api.Label{set("a", "x"), set("a", "x", "b", "1"), set("a", "y"), set("b", "2"), set("a", "y\"\xff"), set("__name__", "up", "a", "z")}
	low := next(60)
	switch next(12) {
	case 0, 1:
		return flushing()
	case 2:
		return compacting()
	case 3, 4:
		l := questions()
		return deleting(l[next(len(l))], low, low+next(25)-2)
	case 5:
		if next(2) == 0 {
			return retaining(next(30))
		}
		return retaining([]int{0, -1, end + 1, 5}[next(4)])
	case 6:
		wrongs := calls(appending(), appending(pt("", 5, 5)), appending(pt("x", -1, 0)), appending(pt("x", 70, top+1)), deleting(nil, 0, 9), deleting(is(""), 0, 9), deleting(is("x"), -1, 9), deleting(is("x"), 9, end+1))
		return wrongs[next(len(wrongs))]
	}
	var l []api.Point
	for range 1 + next(5) {
		low += next(4)
		l = append(l, api.Point{Labels: sets[next(len(sets))], Sample: api.Sample{T: low, V: next(1000) - 500}})
	}
	return appending(l...)
}
