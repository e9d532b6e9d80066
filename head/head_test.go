package head_test

import (
	"fmt"
	"maps"
	"math"
	"slices"
	"strings"
	"testing"

	"gauge/api"
	"gauge/head"
	"gauge/label"
	"gauge/matcher"
	"gauge/wal"
)

const (
	end    = api.MaxTime   // the last time
	top    = api.MaxVal    // the greatest value
	batch  = api.MaxBatch  // the rows of a record
	most   = api.MaxSeries // of a head's series
	points = api.MaxPoints // of a head's samples
)

var (
	longName = strings.Repeat("n", api.MaxName) // as long as a name may be
	longWord = strings.Repeat("v", api.MaxWord) // as long as a value may be
)

// set tells labels of names and values, one behind the other.
func set(words ...string) []api.Label {
	var l []api.Label
	for i := 0; i < len(words); i += 2 {
		l = append(l, api.Label{Name: words[i], Value: words[i+1]})
	}
	return l
}

// samples tells samples of times and values, one behind the other.
func samples(numbers ...int) []api.Sample {
	var l []api.Sample
	for i := 0; i < len(numbers); i += 2 {
		l = append(l, api.Sample{T: numbers[i], V: numbers[i+1]})
	}
	return l
}

// begin tells the record of a further series.
func begin(words ...string) api.Rec {
	return api.Rec{Kind: api.RecSeries, Labels: set(words...)}
}

// grow tells the record of rows of ids, times and values, one behind the other.
func grow(numbers ...int) api.Rec {
	r := api.Rec{Kind: api.RecRows}
	for i := 0; i < len(numbers); i += 3 {
		r.Rows = append(r.Rows, api.Row{Id: numbers[i], Sample: api.Sample{T: numbers[i+1], V: numbers[i+2]}})
	}
	return r
}

// remove tells the record by which samples of ids are gone.
func remove(low, high int, ids ...int) api.Rec {
	return api.Rec{Kind: api.RecDelete, Ids: ids, Low: low, High: high}
}

// recs tells records in one list.
func recs(rs ...api.Rec) []api.Rec {
	return rs
}

// ask tells a matcher.
func ask(kind int, name, value string) api.Matcher {
	return api.Matcher{Kind: kind, Name: name, Value: value}
}

// asks tells matchers in one list.
func asks(ms ...api.Matcher) []api.Matcher {
	return ms
}

// brief tells something in few bytes, however long it is.
func brief(x any) string {
	return fmt.Sprintf("%.300s", fmt.Sprintf("%v", x))
}

// mixed tells numbers that look mixed, and are the same each time.
func mixed(seed int) func(n int) int {
	u := uint64(seed)*7919 + 88172645463325252
	return func(n int) int {
		u ^= u << 13
		u ^= u >> 7
		u ^= u << 17
		return int((u >> 8) % uint64(n))
	}
}

// A model is what a head should have: the tests' own way. Samples stand in no
// order, by their times.
type model struct {
	sets    [][]api.Label
	samples []map[int]int
}

// copied tells a model that is the same, and goes on by itself.
func (m model) copied() model {
	c := model{sets: slices.Clone(m.sets)}
	for _, x := range m.samples {
		c.samples = append(c.samples, maps.Clone(x))
	}
	return c
}

// id tells the place of a set, and -1 of none.
func (m model) id(l []api.Label) int {
	return slices.IndexFunc(m.sets, func(x []api.Label) bool { return slices.Equal(x, l) })
}

// last tells the greatest time of a series, and -1 of none.
func (m model) last(id int) int {
	last := -1
	for t := range m.samples[id] {
		last = max(last, t)
	}
	return last
}

// count tells how many samples there are.
func (m model) count() int {
	n := 0
	for _, x := range m.samples {
		n += len(x)
	}
	return n
}

// between tells the samples of a series from low to high.
func (m model) between(id, low, high int) []api.Sample {
	var l []api.Sample
	for _, t := range slices.Sorted(maps.Keys(m.samples[id])) {
		if t >= low && t <= high {
			l = append(l, api.Sample{T: t, V: m.samples[id][t]})
		}
	}
	return l
}

// do tells the model behind a record, and what Do should tell of it.
func (m model) do(r api.Rec) (model, api.Errno) {
	if e := wal.Check(r); e != api.OK {
		return m, e
	}
	c := m.copied()
	switch r.Kind {
	case api.RecSeries:
		if m.id(r.Labels) >= 0 {
			return m, api.ErrExists
		}
		if len(m.sets) >= 256 {
			return m, api.ErrBig
		}
		c.sets = append(c.sets, r.Labels)
		c.samples = append(c.samples, map[int]int{})
	case api.RecRows:
		n := c.count()
		for _, row := range r.Rows {
			if row.Id >= len(c.sets) {
				return m, api.ErrNone
			}
			if n >= 65536 {
				return m, api.ErrBig
			}
			if row.Sample.T <= c.last(row.Id) {
				return m, api.ErrOrder
			}
			c.samples[row.Id][row.Sample.T] = row.Sample.V
			n++
		}
	case api.RecDelete:
		for _, id := range r.Ids {
			if id >= len(c.sets) {
				return m, api.ErrNone
			}
			maps.DeleteFunc(c.samples[id], func(t, v int) bool { return t >= r.Low && t <= r.High })
		}
	}
	return c, api.OK
}

// series tells those that have a sample, by rising labels.
func (m model) series() []api.Series {
	var l []api.Series
	for id, x := range m.sets {
		if len(m.samples[id]) > 0 {
			l = append(l, api.Series{Labels: x, Samples: m.between(id, 0, end)})
		}
	}
	slices.SortFunc(l, func(a, b api.Series) int { return label.Compare(a.Labels, b.Labels) })
	return l
}

// same tells whether two lists have the same series.
func same(a, b []api.Series) bool {
	return slices.EqualFunc(a, b, func(x, y api.Series) bool {
		return slices.Equal(x.Labels, y.Labels) && slices.Equal(x.Samples, y.Samples)
	})
}

// questions are matchers that some of the tests' series fit.
func questions() [][]api.Matcher {
	return [][]api.Matcher{
		asks(ask(api.Eq, "a", "x")), asks(ask(api.Re, "a", ".+")), asks(ask(api.Ne, "a", "")), asks(ask(api.Nr, "b", "")), asks(ask(api.Ne, "a", ""), ask(api.Ne, "a", "x")),
		asks(ask(api.Re, "a", "x|1.*"), ask(api.Eq, "b", "")), asks(ask(api.Eq, "a", "none")), asks(ask(api.Re, "__name__", "[a-z]+"), ask(api.Nr, "a", "x")),
	}
}

// hold holds what a head tells against a model.
func hold(t *testing.T, h *head.Head, m model) {
	t.Helper()
	if n, c := h.Len(), h.Count(); n != len(m.sets) || c != m.count() {
		t.Fatalf("%d series and %d samples, not %d and %d", n, c, len(m.sets), m.count())
	}
	for id, x := range m.sets {
		if l, e := h.Labels(id); e != api.OK || !slices.Equal(l, x) {
			t.Fatalf("%d is %s %d, not %s", id, brief(l), e, brief(x))
		}
		if n, e := h.Id(x); e != api.OK || n != id {
			t.Fatalf("the id of %s is %d %d, not %d", brief(x), n, e, id)
		}
		if last, e := h.Last(id); e != api.OK || last != m.last(id) {
			t.Fatalf("the last time of %d is %d %d, not %d", id, last, e, m.last(id))
		}
		if l, e := h.Select(id, 0, end); e != api.OK || !slices.Equal(l, m.between(id, 0, end)) {
			t.Fatalf("%d has %s %d, not %s", id, brief(l), e, brief(m.between(id, 0, end)))
		}
	}
	for _, ms := range questions() {
		var want []int
		for id, x := range m.sets {
			if matcher.All(ms, x) {
				want = append(want, id)
			}
		}
		if ids, e := h.Find(ms); e != api.OK || !slices.Equal(ids, want) {
			t.Fatalf("%s: %d %d, not %d", brief(ms), ids, e, want)
		}
	}
	if l := h.Series(); !same(l, m.series()) {
		t.Fatalf("%s, not %s", brief(l), brief(m.series()))
	}
}

// done tells a head to which records were done, none of which is refused.
func done(t *testing.T, rs []api.Rec) *head.Head {
	t.Helper()
	h := head.New()
	for i, r := range rs {
		if e := h.Do(r); e != api.OK {
			t.Fatalf("%d, %s: %d", i, brief(r), e)
		}
	}
	return h
}

// modelOf tells the model behind records, those that are refused left out.
func modelOf(rs []api.Rec) model {
	var m model
	for _, r := range rs {
		m, _ = m.do(r)
	}
	return m
}

// many tells the records of n series, whose labels do not rise as their ids do.
func many(n int) []api.Rec {
	var rs []api.Rec
	for i := range n {
		rs = append(rs, begin("a", fmt.Sprint(i*7919%n), "b", fmt.Sprint(i%3)))
	}
	return rs
}

// filled tells records of series, and rows until there are so many samples.
func filled(series, count int) []api.Rec {
	rs := many(series)
	for i := 0; i < count; {
		r := api.Rec{Kind: api.RecRows}
		for ; i < count && len(r.Rows) < batch; i++ {
			r.Rows = append(r.Rows, api.Row{Id: i % series, Sample: api.Sample{T: i / series * 10, V: i - 1000}})
		}
		rs = append(rs, r)
	}
	return rs
}

// drawn tells a record that a head of about so many series may refuse, or not.
func drawn(next func(int) int, series int) api.Rec {
	switch next(8) {
	case 0, 1:
		var r api.Rec
		r.Kind = api.RecSeries
		for _, name := range []string{"A", "__name__", "a", "b", longName} {
			if next(3) == 0 {
				values := []string{"1", "10", "2", "x", "\x00", "\xff", `"`, longWord, `x", b="y`}
				r.Labels = append(r.Labels, api.Label{Name: name, Value: values[next(len(values))]})
			}
		}
		return r
	case 2:
		var ids []int
		for id := range series + 1 {
			if next(3) == 0 && (id < series || next(4) == 0) {
				ids = append(ids, id)
			}
		}
		low := next(60)
		return remove(low, low+next(30)-2, ids...)
	case 3:
		return []api.Rec{{}, {Kind: 9}, begin("1", "x"), begin("a", ""), grow(-1, 5, 5), grow(0, -1, 0), remove(0, 9), remove(9, 0, 0), remove(0, end+1, 0), grow(series+1, 0, 0), grow(0, 0, top+1)}[next(11)]
	}
	r := api.Rec{Kind: api.RecRows}
	for range 1 + next(6) {
		r.Rows = append(r.Rows, api.Row{Id: next(series + 1), Sample: api.Sample{T: next(100), V: next(1000) - 500}})
	}
	slices.SortStableFunc(r.Rows, func(a, b api.Row) int { return (a.Sample.T - b.Sample.T) * min(next(9), 1) })
	return r
}

// P13.1

func TestExample(t *testing.T) {
	h := head.New()
	for i, c := range []struct {
		r           api.Rec
		e           api.Errno
		count, last int
	}{
		{begin("a", "x"), api.OK, 0, -1},
		{begin("a", "x"), api.ErrExists, 0, -1},
		{grow(0, 10, 1, 0, 10, 2), api.ErrOrder, 0, -1},
		{grow(0, 10, 1), api.OK, 1, 10},
		{remove(10, 10, 0), api.OK, 0, -1},
		{grow(0, 5, 1), api.OK, 1, 5},
	} {
		e := h.Do(c.r)
		id, ide := h.Id(set("a", "x"))
		last, laste := h.Last(0)
		if e != c.e || id != 0 || ide != api.OK || h.Count() != c.count || last != c.last || laste != api.OK || h.Len() != 1 {
			t.Errorf("%d: %d, id %d %d, %d samples, last %d %d", i, e, id, ide, h.Count(), last, laste)
		}
	}
}

// TestDoWrong does records that may not be, of which what is told is what the
// log's check tells of them, whatever the head has.
func TestDoWrong(t *testing.T) {
	for _, rs := range [][]api.Rec{nil, filled(3, 30), filled(most, most)} {
		h, m := done(t, rs), modelOf(rs)
		for _, c := range []struct {
			r api.Rec
			e api.Errno
		}{
			{api.Rec{}, api.ErrArg}, {api.Rec{Kind: 4}, api.ErrArg}, {api.Rec{Kind: -1, Labels: set("a", "x")}, api.ErrArg}, {api.Rec{Kind: math.MaxInt}, api.ErrArg},
			{api.Rec{Kind: api.RecSeries, Labels: set("a", "0"), Low: 1}, api.ErrArg}, {api.Rec{Kind: api.RecSeries, Labels: set("a", "0"), Ids: []int{0}}, api.ErrArg}, {begin("1", "x"), api.ErrName}, {begin("a", ""), api.ErrArg}, {begin("a", longWord+"v"), api.ErrBig}, {begin("b", "x", "a", "x"), api.ErrOrder}, {begin("a", "x", "a", "x"), api.ErrOrder},
			{api.Rec{Kind: api.RecSeries, Labels: make([]api.Label, api.MaxLabels+1)}, api.ErrBig},
			{grow(), api.ErrArg}, {grow(-1, 5, 5), api.ErrArg}, {grow(99, 5, 5, end+1, 5, 5), api.ErrArg}, {grow(99, 5, 5, 0, -1, 0), api.ErrOver}, {grow(0, 5, 5, 0, end+1, 5), api.ErrOver}, {grow(99, 5, top+1), api.ErrOver}, {grow(0, 5, -top-1), api.ErrOver}, {api.Rec{Kind: api.RecRows, Rows: make([]api.Row, batch+1)}, api.ErrArg}, {api.Rec{Kind: api.RecRows, Rows: grow(0, 5, 5).Rows, High: 7}, api.ErrArg},
			{remove(0, 9), api.ErrArg}, {remove(0, 9, 1, 0), api.ErrOrder}, {remove(0, 9, 999, 999), api.ErrOrder}, {remove(0, 9, -1), api.ErrArg}, {remove(0, 9, 0, end+1), api.ErrArg}, {remove(-1, 9, 999), api.ErrOver}, {remove(0, end+1, 999), api.ErrOver}, {remove(9, 8, 999), api.ErrOrder}, {api.Rec{Kind: api.RecDelete, Ids: []int{0}, High: 9, Labels: set("a", "x")}, api.ErrArg},
		} {
			if want := wal.Check(c.r); want != c.e {
				t.Fatalf("%s: %d, not %d", brief(c.r), want, c.e)
			}
			if e := h.Do(c.r); e != c.e {
				t.Errorf("%s: %d, not %d", brief(c.r), e, c.e)
			}
		}
		hold(t, h, m)
	}
}

func TestDoSeries(t *testing.T) {
	h := head.New()
	sets := [][]string{{"a", "x"}, {}, {"a", "x", "b", "y"}, {"b", "y"}, {"a", `x", b="y`}, {"a", "x\", b=\"y\"}"}, {"a", "X"}, {"a", "\xff"}, {"a", `\xff`}, {"a", "\x00"}, {"a", "ÿ"}, {longName, longWord}, {"__name__", "a"}, {"A", "x"}}
	var m model
	for id, words := range sets {
		if e := h.Do(begin(words...)); e != api.OK {
			t.Fatalf("%q: %d", words, e)
		}
		m, _ = m.do(begin(words...))
		hold(t, h, m)
		if n, e := h.Id(set(words...)); n != id || e != api.OK {
			t.Fatalf("%q: %d %d, not %d", words, n, e, id)
		}
		for _, again := range sets[:id+1] {
			if e := h.Do(begin(again...)); e != api.ErrExists {
				t.Fatalf("%q again: %d", again, e)
			}
		}
	}
	hold(t, h, m)
	// A series is there, whether it has samples or not.
	h = done(t, recs(begin("a", "x"), grow(0, 1, 1)))
	if e := h.Do(begin("a", "x")); e != api.ErrExists {
		t.Error(e)
	}
	if e := h.Do(remove(0, end, 0)); e != api.OK {
		t.Error(e)
	}
	if e := h.Do(begin("a", "x")); e != api.ErrExists {
		t.Error(e)
	}
	if e := h.Do(begin("a", "y")); e != api.OK || h.Len() != 2 {
		t.Error(e)
	}
}

func TestDoSeriesMost(t *testing.T) {
	rs := many(most)
	h := done(t, rs)
	for _, r := range recs(begin("a", "further"), begin()) {
		if e := h.Do(r); e != api.ErrBig {
			t.Errorf("%s: %d", brief(r), e)
		}
	}
	// That there is one already is told ahead of there being no room.
	for _, r := range recs(rs[0], rs[most-1]) {
		if e := h.Do(r); e != api.ErrExists {
			t.Errorf("%s: %d", brief(r), e)
		}
	}
	hold(t, h, modelOf(rs))
	if e := h.Do(grow(most-1, 1, 1, 0, 2, 2)); e != api.OK || h.Count() != 2 {
		t.Error(e)
	}
	if e := h.Do(grow(most, 1, 1)); e != api.ErrNone {
		t.Error(e)
	}
	// A series is there to stay: none leaves room for another one.
	if e := h.Do(remove(0, end, 0, most-1)); e != api.OK {
		t.Error(e)
	}
	if e := h.Do(begin("a", "further")); e != api.ErrBig {
		t.Error(e)
	}
}

func TestDoRows(t *testing.T) {
	ahead := recs(begin("a", "x"), begin("a", "y"), grow(0, 10, 1, 1, 7, -5))
	for _, c := range []struct {
		r api.Rec
		e api.Errno
	}{
		{grow(0, 11, 1), api.OK}, {grow(0, end, top), api.OK}, {grow(0, 11, -top, 0, 12, top, 1, 8, 0), api.OK}, {grow(1, 8, 0, 0, 11, 0, 1, 9, 0, 0, 12, 0), api.OK},
		{grow(0, 10, 1), api.ErrOrder}, {grow(0, 9, 1), api.ErrOrder}, {grow(0, 0, 1), api.ErrOrder}, {grow(1, 7, -5), api.ErrOrder}, {grow(0, 11, 1, 0, 11, 2), api.ErrOrder}, {grow(0, 12, 1, 0, 11, 1), api.ErrOrder}, {grow(0, 11, 1, 1, 8, 1, 0, 10, 1), api.ErrOrder}, {grow(0, end, 1, 0, end, 1), api.ErrOrder},
		{grow(2, 1, 1), api.ErrNone}, {grow(end, 1, 1), api.ErrNone}, {grow(0, 11, 1, 2, 1, 1), api.ErrNone}, {grow(most, 1, 1), api.ErrNone}, {grow(1<<32, 11, 1), api.ErrNone},
		// Row by row: the first one that is refused says why.
		{grow(2, 1, 1, 0, 10, 1), api.ErrNone}, {grow(0, 10, 1, 2, 1, 1), api.ErrOrder}, {grow(0, 11, 1, 0, 11, 1, 2, 1, 1), api.ErrOrder}, {grow(0, 11, 1, 2, 1, 1, 0, 11, 1), api.ErrNone},
	} {
		h := done(t, ahead)
		m, want := modelOf(ahead).do(c.r)
		if e := h.Do(c.r); e != c.e || want != c.e {
			t.Errorf("%s: %d, not %d", brief(c.r), e, c.e)
		}
		hold(t, h, m)
	}
	h := done(t, recs(begin()))
	if e := h.Do(grow(0, 0, 7)); e != api.OK {
		t.Error("the first time of all:", e)
	}
	if e := h.Do(grow(0, 0, 7)); e != api.ErrOrder {
		t.Error("and again:", e)
	}
	full := api.Rec{Kind: api.RecRows}
	for i := range batch {
		full.Rows = append(full.Rows, api.Row{Sample: api.Sample{T: i + 1, V: i}})
	}
	if e := h.Do(full); e != api.OK || h.Count() != batch+1 {
		t.Error("a full batch:", e)
	}
}

func TestDoRowsMost(t *testing.T) {
	for _, series := range []int{1, 3, most} {
		rs := filled(series, points-1)
		h := done(t, rs)
		late := points * 10
		if e := h.Do(grow(0, late, 1, 0, late+1, 1)); e != api.ErrBig || h.Count() != points-1 {
			t.Errorf("two for one: %d, %d samples", e, h.Count())
		}
		// Of a row: that there is no such id is told first, then that there is no room.
		if e := h.Do(grow(0, late, 1, series, late, 1)); e != api.ErrNone {
			t.Error(e)
		}
		if e := h.Do(grow(0, late, 1, 0, 0, 1)); e != api.ErrBig {
			t.Error(e)
		}
		if e := h.Do(grow(0, 0, 1, 0, late, 1)); e != api.ErrOrder {
			t.Error(e)
		}
		if e := h.Do(grow(series-1, late, 1)); e != api.OK || h.Count() != points {
			t.Errorf("the last one: %d, %d samples", e, h.Count())
		}
		for _, r := range recs(grow(0, late+1, 1), grow(0, 0, 1)) {
			if e := h.Do(r); e != api.ErrBig || h.Count() != points {
				t.Errorf("%s: %d, %d samples", brief(r), e, h.Count())
			}
		}
		if e := h.Do(grow(series, 0, 1)); e != api.ErrNone {
			t.Error(e)
		}
		// What is gone leaves room.
		if e := h.Do(remove(late, late, series-1)); e != api.OK || h.Count() != points-1 {
			t.Errorf("%d, %d samples", e, h.Count())
		}
		if e := h.Do(grow(0, late+5, 1)); e != api.OK || h.Count() != points {
			t.Errorf("%d, %d samples", e, h.Count())
		}
		if e := h.Do(grow(0, late+6, 1)); e != api.ErrBig {
			t.Error(e)
		}
	}
}

func TestDoDelete(t *testing.T) {
	ahead := recs(begin("a", "x"), begin("a", "y"), begin("a", "z"), grow(0, 10, 1, 0, 20, 2, 0, 30, 3, 1, 10, 4, 1, 15, 5, 1, 30, 6))
	for _, c := range []struct {
		r    api.Rec
		e    api.Errno
		x, y []api.Sample
	}{
		{remove(10, 10, 0), api.OK, samples(20, 2, 30, 3), samples(10, 4, 15, 5, 30, 6)},
		{remove(20, 20, 0, 1), api.OK, samples(10, 1, 30, 3), samples(10, 4, 15, 5, 30, 6)},
		{remove(30, end, 0, 1, 2), api.OK, samples(10, 1, 20, 2), samples(10, 4, 15, 5)},
		{remove(0, end, 1), api.OK, samples(10, 1, 20, 2, 30, 3), nil},
		{remove(0, end, 0, 1, 2), api.OK, nil, nil},
		{remove(0, 9, 0, 1), api.OK, samples(10, 1, 20, 2, 30, 3), samples(10, 4, 15, 5, 30, 6)},
		{remove(31, end, 0, 1), api.OK, samples(10, 1, 20, 2, 30, 3), samples(10, 4, 15, 5, 30, 6)},
		{remove(11, 19, 0, 1), api.OK, samples(10, 1, 20, 2, 30, 3), samples(10, 4, 30, 6)},
		{remove(11, 29, 0, 1), api.OK, samples(10, 1, 30, 3), samples(10, 4, 30, 6)},
		{remove(0, 0, 2), api.OK, samples(10, 1, 20, 2, 30, 3), samples(10, 4, 15, 5, 30, 6)},
		{remove(0, end, 3), api.ErrNone, samples(10, 1, 20, 2, 30, 3), samples(10, 4, 15, 5, 30, 6)},
		{remove(0, end, 0, 1, 3), api.ErrNone, samples(10, 1, 20, 2, 30, 3), samples(10, 4, 15, 5, 30, 6)},
		{remove(0, end, 0, end), api.ErrNone, samples(10, 1, 20, 2, 30, 3), samples(10, 4, 15, 5, 30, 6)},
		{remove(99, 99, 3), api.ErrNone, samples(10, 1, 20, 2, 30, 3), samples(10, 4, 15, 5, 30, 6)},
	} {
		h := done(t, ahead)
		if e := h.Do(c.r); e != c.e {
			t.Errorf("%s: %d, not %d", brief(c.r), e, c.e)
		}
		for id, want := range [][]api.Sample{c.x, c.y, nil} {
			if l, e := h.Select(id, 0, end); e != api.OK || !slices.Equal(l, want) {
				t.Errorf("%s: %d has %v, not %v", brief(c.r), id, l, want)
			}
		}
		if h.Count() != len(c.x)+len(c.y) || h.Len() != 3 {
			t.Errorf("%s: %d samples", brief(c.r), h.Count())
		}
		m, _ := modelOf(ahead).do(c.r)
		hold(t, h, m)
	}
	if e := head.New().Do(remove(0, 0, 0)); e != api.ErrNone {
		t.Error(e)
	}
}

// TestDoMixed does records as they come, and holds what is told against a model.
func TestDoMixed(t *testing.T) {
	met := map[api.Errno]int{}
	for seed := range 120 {
		next := mixed(seed)
		h := head.New()
		var m model
		for range 5 + next(80) {
			r := drawn(next, len(m.sets))
			var want api.Errno
			m, want = m.do(r)
			met[want]++
			if e := h.Do(r); e != want {
				t.Fatalf("%d: %s: %d, not %d", seed, brief(r), e, want)
			}
			hold(t, h, m)
		}
	}
	for _, e := range []api.Errno{api.OK, api.ErrArg, api.ErrName, api.ErrNone, api.ErrExists, api.ErrOver, api.ErrOrder} {
		if met[e] < 10 {
			t.Errorf("only %d of error %d", met[e], e)
		}
	}
}

// P13.2

func TestNew(t *testing.T) {
	h := head.New()
	if h == nil {
		t.Fatal("none")
	}
	hold(t, h, model{})
	if l := h.Series(); len(l) != 0 {
		t.Error(l)
	}
	hold(t, h.Copy(), model{})
	if other := head.New(); other.Do(begin("a", "x")) != api.OK || other.Len() != 1 || h.Len() != 0 {
		t.Error("two heads are one")
	}
}

func TestId(t *testing.T) {
	h := done(t, recs(begin("a", "x"), begin(), begin("a", "x", "b", "y"), begin("a", `x", b="y`)))
	for _, c := range []struct {
		l  []api.Label
		id int
		e  api.Errno
	}{
		{set("a", "x"), 0, api.OK}, {nil, 1, api.OK}, {[]api.Label{}, 1, api.OK}, {set("a", "x", "b", "y"), 2, api.OK}, {set("a", `x", b="y`), 3, api.OK},
		{set("a", "y"), 0, api.ErrNone}, {set("b", "x"), 0, api.ErrNone}, {set("a", "x", "b", "z"), 0, api.ErrNone}, {set("A", "x"), 0, api.ErrNone}, {set("a", "X"), 0, api.ErrNone}, {set("a", "x", "b", "y", "c", "z"), 0, api.ErrNone}, {set("b", "y"), 0, api.ErrNone},
		{set("1", "x"), 0, api.ErrName}, {set("", "x"), 0, api.ErrName}, {set("a", ""), 0, api.ErrArg}, {set("a", longWord+"v"), 0, api.ErrBig}, {set("b", "y", "a", "x"), 0, api.ErrOrder}, {set("a", "x", "a", "x"), 0, api.ErrOrder}, {make([]api.Label, api.MaxLabels+1), 0, api.ErrBig}, {set(longName+"n", "x"), 0, api.ErrName},
		{set("a", "x", "b", ""), 0, api.ErrArg},
	} {
		if id, e := h.Id(c.l); id != c.id || e != c.e {
			t.Errorf("%s: %d %d, not %d %d", brief(c.l), id, e, c.id, c.e)
		}
	}
	if id, e := head.New().Id(nil); id != 0 || e != api.ErrNone {
		t.Error(id, e)
	}
}

func TestNoSuchId(t *testing.T) {
	for _, n := range []int{0, 1, 3, most} {
		h := done(t, many(n))
		for _, id := range []int{-1, n, n + 1, most, math.MinInt, math.MaxInt, -1 << 32, 1 << 32} {
			if l, e := h.Labels(id); l != nil || e != api.ErrNone {
				t.Errorf("%d of %d: %v %d", id, n, l, e)
			}
			if last, e := h.Last(id); last != 0 || e != api.ErrNone {
				t.Errorf("%d of %d: %d %d", id, n, last, e)
			}
			for _, ts := range [][]int{{0, end}, {5, 4}, {-1, -1}} {
				if l, e := h.Select(id, ts[0], ts[1]); l != nil || e != api.ErrNone {
					t.Errorf("%d of %d: %v %d", id, n, l, e)
				}
			}
		}
	}
}

func TestLast(t *testing.T) {
	h := done(t, recs(begin("a", "x"), begin("a", "y"), grow(0, 10, 1, 0, 20, 1, 1, 0, 0)))
	last := func(id, want int) {
		t.Helper()
		if n, e := h.Last(id); n != want || e != api.OK {
			t.Errorf("%d: %d %d, not %d", id, n, e, want)
		}
	}
	last(0, 20)
	last(1, 0)
	h.Do(remove(15, 25, 0))
	last(0, 10)
	h.Do(remove(0, 5, 0))
	last(0, 10)
	h.Do(remove(0, 10, 0, 1))
	last(0, -1)
	last(1, -1)
	h.Do(grow(0, end, 1, 1, 0, 1))
	last(0, end)
	last(1, 0)
}

func TestFind(t *testing.T) {
	rs := append(recs(begin("a", "x"), begin(), begin("__name__", "up", "a", "y", "b", "1"), begin("b", "1"), begin("__name__", "up", "a", "x")), grow(4, 1, 1))
	h := done(t, rs)
	for _, c := range []struct {
		ms  []api.Matcher
		ids []int
		e   api.Errno
	}{
		{asks(ask(api.Eq, "a", "x")), []int{0, 4}, api.OK}, {asks(ask(api.Re, "a", "x|y")), []int{0, 2, 4}, api.OK}, {asks(ask(api.Eq, "__name__", "up"), ask(api.Ne, "a", "x")), []int{2}, api.OK}, {asks(ask(api.Ne, "b", "")), []int{2, 3}, api.OK}, {asks(ask(api.Eq, "a", "x"), ask(api.Eq, "a", "y")), nil, api.OK}, {asks(ask(api.Ne, "b", ""), ask(api.Eq, "a", "")), []int{3}, api.OK}, {asks(ask(api.Re, "a", ".")), []int{0, 2, 4}, api.OK}, {asks(ask(api.Eq, "none", "x")), nil, api.OK},
		{nil, nil, api.ErrArg}, {asks(ask(api.Eq, "a", "")), nil, api.ErrArg}, {asks(ask(api.Re, "a", ".*")), nil, api.ErrArg}, {asks(ask(9, "a", "x")), nil, api.ErrArg}, {asks(ask(api.Eq, "1", "x")), nil, api.ErrName}, {asks(ask(api.Re, "a", "(")), nil, api.ErrSyntax}, {asks(ask(api.Eq, "a", longWord+"v")), nil, api.ErrBig},
		{slices.Repeat(asks(ask(api.Eq, "a", "x")), api.MaxLabels), []int{0, 4}, api.OK}, {slices.Repeat(asks(ask(api.Eq, "a", "x")), api.MaxLabels+1), nil, api.ErrBig},
	} {
		if want := matcher.CheckAll(c.ms); want != c.e {
			t.Fatalf("%s: %d, not %d", brief(c.ms), want, c.e)
		}
		if ids, e := h.Find(c.ms); e != c.e || !slices.Equal(ids, c.ids) {
			t.Errorf("%s: %d %d, not %d %d", brief(c.ms), ids, e, c.ids, c.e)
		}
		if ids, e := head.New().Find(c.ms); e != c.e || len(ids) != 0 {
			t.Errorf("of none: %s: %d %d", brief(c.ms), ids, e)
		}
	}
	var all []int
	for id := range most {
		all = append(all, id)
	}
	if ids, e := done(t, many(most)).Find(asks(ask(api.Ne, "a", ""))); e != api.OK || !slices.Equal(ids, all) {
		t.Errorf("%d %d", ids, e)
	}
}

func TestSelect(t *testing.T) {
	rs := recs(begin("a", "x"), begin("a", "y"), begin("a", "z"), grow(0, 0, top, 0, 10, 1, 0, 11, 2, 0, 20, 3, 0, end, -top, 1, 15, 5), remove(11, 11, 0))
	h, m := done(t, rs), modelOf(rs)
	ts := []int{math.MinInt, -1, 0, 1, 9, 10, 11, 12, 14, 15, 16, 19, 20, 21, end - 1, end, end + 1, math.MaxInt}
	for id := range 3 {
		for _, low := range ts {
			for _, high := range ts {
				if l, e := h.Select(id, low, high); e != api.OK || !slices.Equal(l, m.between(id, low, high)) {
					t.Errorf("%d from %d to %d: %v %d, not %v", id, low, high, l, e, m.between(id, low, high))
				}
			}
		}
	}
}

func TestSelectMixed(t *testing.T) {
	rs := filled(3, 3000)
	h, m := done(t, rs), modelOf(rs)
	next := mixed(5)
	for range 2000 {
		id, low := next(3), next(10100)-20
		high := low + next(400) - 20
		if l, e := h.Select(id, low, high); e != api.OK || !slices.Equal(l, m.between(id, low, high)) {
			t.Fatalf("%d from %d to %d: %s %d", id, low, high, brief(l), e)
		}
	}
}

func TestSeries(t *testing.T) {
	h := done(t, recs(begin("b", "1"), begin("a", "y"), begin("a", "x", "b", "1"), begin(), begin("a", "x"), begin("a", "w"), grow(5, 1, 1, 4, 1, 2, 3, 1, 3, 2, 1, 4, 1, 1, 5, 0, 1, 6, 1, 2, 7)))
	text := func() string {
		s := ""
		for _, x := range h.Series() {
			s += fmt.Sprint(label.Print(x.Labels), x.Samples)
		}
		return s
	}
	if s := text(); s != `{}[{1 3}]{a="w"}[{1 1}]{a="x"}[{1 2}]{a="x", b="1"}[{1 4}]{a="y"}[{1 5} {2 7}]{b="1"}[{1 6}]` {
		t.Error(s)
	}
	// What has no sample is left out, and may be back.
	h.Do(remove(0, 1, 1, 3, 4, 5))
	if s := text(); s != `{a="x", b="1"}[{1 4}]{a="y"}[{2 7}]{b="1"}[{1 6}]` {
		t.Error(s)
	}
	h.Do(grow(4, 0, 9))
	if s := text(); s != `{a="x"}[{0 9}]{a="x", b="1"}[{1 4}]{a="y"}[{2 7}]{b="1"}[{1 6}]` {
		t.Error(s)
	}
}

func TestCopy(t *testing.T) {
	for seed := range 60 {
		next := mixed(100 + seed)
		h := head.New()
		var m model
		step := func(h *head.Head, m model) model {
			r := drawn(next, len(m.sets))
			m, want := m.do(r)
			if e := h.Do(r); e != want {
				t.Fatalf("%s: %d, not %d", brief(r), e, want)
			}
			return m
		}
		for range next(50) {
			m = step(h, m)
		}
		c, n := h.Copy(), m
		if c == nil {
			t.Fatal("none")
		}
		hold(t, c, n)
		// Each of the two goes on by itself.
		for range 30 {
			if next(2) == 0 {
				m = step(h, m)
			} else {
				n = step(c, n)
			}
			hold(t, h, m)
			hold(t, c, n)
		}
	}
	full := filled(most, points)
	c := done(t, full).Copy()
	hold(t, c, modelOf(full))
	if e := c.Do(begin("a", "further")); e != api.ErrBig {
		t.Error(e)
	}
	if e := c.Do(grow(0, end, 0)); e != api.ErrBig {
		t.Error(e)
	}
}

func TestNoHead(t *testing.T) {
	var h *head.Head
	for _, r := range recs(begin("a", "x"), grow(0, 1, 1), remove(0, 1, 0), api.Rec{}, begin("1", "x"), grow(0, -1, 1)) {
		if e := h.Do(r); e != api.ErrNil {
			t.Errorf("%s: %d", brief(r), e)
		}
	}
	for _, l := range [][]api.Label{nil, set("a", "x"), set("1", "x")} {
		if id, e := h.Id(l); id != 0 || e != api.ErrNil {
			t.Error(id, e)
		}
	}
	for _, id := range []int{-1, 0, 1, math.MaxInt} {
		if l, e := h.Labels(id); l != nil || e != api.ErrNil {
			t.Error(l, e)
		}
		if last, e := h.Last(id); last != 0 || e != api.ErrNil {
			t.Error(last, e)
		}
		if l, e := h.Select(id, 0, end); l != nil || e != api.ErrNil {
			t.Error(l, e)
		}
	}
	for _, ms := range [][]api.Matcher{nil, asks(ask(api.Eq, "a", "x")), asks(ask(9, "", ""))} {
		if ids, e := h.Find(ms); ids != nil || e != api.ErrNil {
			t.Error(ids, e)
		}
	}
	if h.Len() != 0 || h.Count() != 0 || len(h.Series()) != 0 || h.Copy() != nil {
		t.Error("of no head there is something")
	}
}

// P13.3

// TestRecordsAlone does the same records to two heads, to one of them none that
// is refused, and looks in between at one of them alone.
func TestRecordsAlone(t *testing.T) {
	for seed := range 80 {
		next := mixed(300 + seed)
		a, b := head.New(), head.New()
		for range 60 {
			r := drawn(next, a.Len())
			e := a.Do(r)
			if e == api.OK {
				if e := b.Do(r); e != api.OK {
					t.Fatalf("%s: %d", brief(r), e)
				}
			}
			a.Series()
			a.Copy()
			a.Select(0, 3, 50)
			a.Find(questions()[next(len(questions()))])
		}
		alike(t, a, b)
	}
}

// alike holds all that two heads tell against one another.
func alike(t *testing.T, a, b *head.Head) {
	t.Helper()
	if a.Len() != b.Len() || a.Count() != b.Count() || !same(a.Series(), b.Series()) {
		t.Fatalf("%d and %d series, %d and %d samples", a.Len(), b.Len(), a.Count(), b.Count())
	}
	for id := range a.Len() {
		la, _ := a.Labels(id)
		lb, _ := b.Labels(id)
		ta, _ := a.Last(id)
		tb, _ := b.Last(id)
		ia, _ := a.Id(lb)
		ib, _ := b.Id(la)
		if !slices.Equal(la, lb) || ta != tb || ia != ib || ia != id {
			t.Fatalf("%d: %s and %s, %d and %d, %d and %d", id, brief(la), brief(lb), ta, tb, ia, ib)
		}
	}
	for _, ms := range questions() {
		ia, _ := a.Find(ms)
		ib, _ := b.Find(ms)
		if !slices.Equal(ia, ib) {
			t.Fatalf("%s: %d and %d", brief(ms), ia, ib)
		}
	}
}

// P13.4

// TestAllOrNothing breaks rows at each place, and holds the head to what it was.
func TestAllOrNothing(t *testing.T) {
	ahead := recs(begin("a", "x"), begin("a", "y"), begin("a", "z"), grow(0, 10, 1, 0, 20, 2, 1, 15, 3, 0, 30, 3), remove(20, 30, 0))
	right := api.Rec{Kind: api.RecRows}
	for i := range batch {
		right.Rows = append(right.Rows, api.Row{Id: i % 3, Sample: api.Sample{T: 20 + i, V: i}})
	}
	h, m := done(t, ahead), modelOf(ahead)
	for at := range batch {
		for _, row := range []api.Row{{Id: 3, Sample: api.Sample{T: 99}}, {Id: at % 3, Sample: api.Sample{T: 10}}, {Id: at % 3, Sample: api.Sample{T: end + 1}}} {
			r := api.Rec{Kind: api.RecRows, Rows: slices.Clone(right.Rows)}
			r.Rows[at] = row
			_, want := m.do(r)
			if e := h.Do(r); e != want {
				t.Fatalf("%d is %v: %d, not %d", at, row, e, want)
			}
			if want == api.OK {
				h = done(t, ahead)
			}
			hold(t, h, m)
		}
	}
	m, _ = m.do(right)
	if e := h.Do(right); e != api.OK {
		t.Fatal(e)
	}
	hold(t, h, m)
}

func TestNothingAtTheLimit(t *testing.T) {
	for _, room := range []int{0, 1, 7, batch - 1} {
		rs := filled(5, points-room)
		h := done(t, rs)
		before := h.Series()
		r := api.Rec{Kind: api.RecRows}
		for i := range batch {
			r.Rows = append(r.Rows, api.Row{Id: i % 5, Sample: api.Sample{T: end - batch + i}})
		}
		if e := h.Do(r); e != api.ErrBig || h.Count() != points-room || !same(h.Series(), before) {
			t.Errorf("room for %d: %d, %d samples", room, e, h.Count())
		}
		r.Rows = r.Rows[:room]
		if e := h.Do(r); room > 0 && e != api.OK || h.Count() != points {
			t.Errorf("room for %d: %d, %d samples", room, e, h.Count())
		}
	}
}

// TestRefusedMixed holds a head behind each record that it refuses against what
// it was, and against what it does next.
func TestRefusedMixed(t *testing.T) {
	refused := 0
	for seed := range 60 {
		next := mixed(500 + seed)
		h := head.New()
		for range 60 {
			r := drawn(next, h.Len())
			c := h.Copy()
			if h.Do(r) != api.OK {
				refused++
				alike(t, h, c)
				further := drawn(next, h.Len())
				if e, f := h.Do(further), c.Do(further); e != f {
					t.Fatalf("%s behind %s: %d, not %d", brief(further), brief(r), e, f)
				}
				alike(t, h, c)
			}
		}
	}
	if refused < 500 {
		t.Errorf("only %d are refused", refused)
	}
}

// P13.5

func TestGone(t *testing.T) {
	for seed := range 60 {
		next := mixed(700 + seed)
		h := head.New()
		var m model
		for range 60 {
			r := drawn(next, len(m.sets))
			h.Do(r)
			m, _ = m.do(r)
		}
		if len(m.sets) == 0 {
			continue
		}
		low := next(90)
		r := remove(low, low+next(40), next(len(m.sets)))
		if id := r.Ids[0]; id+1 < len(m.sets) && next(2) == 0 {
			r.Ids = append(r.Ids, id+1)
		}
		before := make([][]api.Sample, len(m.sets))
		for id := range before {
			before[id], _ = h.Select(id, 0, end)
		}
		// Done again, nothing changes.
		for range 2 {
			if e := h.Do(r); e != api.OK {
				t.Fatalf("%s: %d", brief(r), e)
			}
			for id, all := range before {
				gone := func(s api.Sample) bool {
					return slices.Contains(r.Ids, id) && s.T >= r.Low && s.T <= r.High
				}
				want := slices.DeleteFunc(slices.Clone(all), gone)
				if l, e := h.Select(id, 0, end); e != api.OK || !slices.Equal(l, want) {
					t.Fatalf("%s: %d has %v, not %v", brief(r), id, l, want)
				}
				if l, _ := h.Select(id, r.Low, r.High); slices.Contains(r.Ids, id) && len(l) != 0 {
					t.Fatalf("%s: %d has %v", brief(r), id, l)
				}
			}
		}
		m, _ = m.do(r)
		hold(t, h, m)
	}
}

// TestGoneAndBack lays other samples where some are gone.
func TestGoneAndBack(t *testing.T) {
	rs := recs(begin("a", "x"), grow(0, 10, 1, 0, 20, 2, 0, 30, 3), remove(20, 30, 0), grow(0, 20, 5, 0, 25, 6), remove(10, 10, 0), remove(20, 30, 0), grow(0, 1, 7))
	h := done(t, rs)
	if l, e := h.Select(0, 0, end); e != api.OK || !slices.Equal(l, samples(1, 7)) || h.Count() != 1 {
		t.Error(l, e)
	}
	hold(t, h, modelOf(rs))
}

// The rules that hold everywhere: what is handed in is not changed and not
// kept, and an answer is new memory.

// spoil puts other things into a list, and into the room behind it.
func spoil[E any](l []E, other E) {
	l = l[:cap(l)]
	for i := range l {
		l[i] = other
	}
}

// TestKeepsNothing hands lists in that have something behind their ends, and
// changes them afterwards.
func TestKeepsNothing(t *testing.T) {
	h := done(t, recs(begin("a", "w")))
	labels := append(set("a", "x"), api.Label{Name: "b", Value: "y"})[:1]
	rows := append(grow(0, 10, 1, 1, 11, 2).Rows, api.Row{Id: 7})[:2]
	ids := append([]int{0, 1}, 7)[:2]
	ms := append(asks(ask(api.Eq, "a", "x")), ask(9, "b", "y"))[:1]
	h.Do(api.Rec{Kind: api.RecSeries, Labels: labels})
	h.Do(api.Rec{Kind: api.RecSeries, Labels: labels})
	h.Do(api.Rec{Kind: api.RecRows, Rows: rows})
	h.Do(api.Rec{Kind: api.RecRows, Rows: rows})
	h.Do(api.Rec{Kind: api.RecDelete, Ids: ids, Low: 5, High: 10})
	h.Id(labels)
	h.Find(ms)
	if !slices.Equal(labels[:2], set("a", "x", "b", "y")) || !slices.Equal(rows[:3], append(grow(0, 10, 1, 1, 11, 2).Rows, api.Row{Id: 7})) || !slices.Equal(ids[:3], []int{0, 1, 7}) || !slices.Equal(ms[:2], asks(ask(api.Eq, "a", "x"), ask(9, "b", "y"))) {
		t.Error("what was handed in is changed")
	}
	spoil(labels, api.Label{Name: "z", Value: "z"})
	spoil(rows, api.Row{Id: 1, Sample: api.Sample{T: 1, V: 9}})
	spoil(ids, 9)
	spoil(ms, api.Matcher{})
	hold(t, h, modelOf(recs(begin("a", "w"), begin("a", "x"), grow(0, 10, 1, 1, 11, 2), remove(5, 10, 0))))
}

func TestAnswersAreNew(t *testing.T) {
	rs := filled(4, 300)
	h, m := done(t, rs), modelOf(rs)
	otherLabel, otherSample := api.Label{Name: "z", Value: "z"}, api.Sample{T: 1, V: 9}
	for id := range 4 {
		l, _ := h.Labels(id)
		spoil(l, otherLabel)
		for _, ts := range [][]int{{0, end}, {100, 300}, {0, 99}, {5, 4}} {
			some, _ := h.Select(id, ts[0], ts[1])
			spoil(some, otherSample)
		}
	}
	ids, _ := h.Find(asks(ask(api.Ne, "a", "")))
	spoil(ids, 9)
	all, again := h.Series(), h.Series()
	for _, s := range all {
		spoil(s.Labels, otherLabel)
		spoil(s.Samples, otherSample)
	}
	spoil(all, api.Series{})
	if !same(again, m.series()) {
		t.Error("two answers share memory")
	}
	hold(t, h, m)
	c := h.Copy()
	for _, x := range []*head.Head{h, c} {
		if e := x.Do(grow(0, 5000, 1)); e != api.OK {
			t.Error(e)
		}
	}
	m, _ = m.do(grow(0, 5000, 1))
	hold(t, h, m)
	hold(t, c, m)
}
