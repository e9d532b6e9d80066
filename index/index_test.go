package index_test

import (
	"bytes"
	"encoding/binary"
	"fmt"
	"math"
	"slices"
	"strings"
	"testing"

	"gauge/api"
	"gauge/index"
	"gauge/label"
	"gauge/matcher"
)

const (
	most  = api.MaxSeries // of an index's sets
	small = "\x04\x01a\x01b\x01x\x01y\x02\x01\x00\x02\x02\x00\x02\x01\x03"
)

var (
	longName = strings.Repeat("n", api.MaxName) // as long as a name may be
	longWord = strings.Repeat("v", api.MaxWord) // as long as a value may be
	huge     = strings.Repeat("v", 1<<20)
)

// set tells labels of names and values, one behind the other.
func set(words ...string) []api.Label {
	var l []api.Label
	for i := 0; i < len(words); i += 2 {
		l = append(l, api.Label{Name: words[i], Value: words[i+1]})
	}
	return l
}

// list tells sets in one list.
func list(sets ...[]api.Label) [][]api.Label {
	return sets
}

// example is the sets of the chapter's example.
func example() [][]api.Label {
	return list(set("a", "x"), set("a", "x", "b", "y"))
}

// ask tells a matcher.
func ask(kind int, name, value string) api.Matcher {
	return api.Matcher{Kind: kind, Name: name, Value: value}
}

// asks tells matchers in one list.
func asks(ms ...api.Matcher) []api.Matcher {
	return ms
}

// brief tells something in few bytes, however long it is.
func brief(x any) string {
	return fmt.Sprintf("%.200s", fmt.Sprintf("%q", x))
}

// mixed tells numbers that look mixed, and are the same each time.
func mixed() func(n int) int {
	u := uint64(88172645463325252)
	return func(n int) int {
		u ^= u << 13
		u ^= u >> 7
		u ^= u << 17
		return int((u >> 8) % uint64(n))
	}
}

// word tells a number in three digits, which rise as the numbers do.
func word(n int) string {
	return fmt.Sprintf("%03d", n)
}

// ones tells n sets of one label, whose values rise.
func ones(n int) [][]api.Label {
	sets := make([][]api.Label, n)
	for i := range sets {
		sets[i] = set("a", word(i))
	}
	return sets
}

// wide tells n sets of as many labels as may be; no two have a value in common.
func wide(n int) [][]api.Label {
	sets := make([][]api.Label, n)
	for i := range sets {
		for j := range api.MaxLabels {
			name := strings.Repeat("n", api.MaxName-1) + string(rune('a'+j))
			value := word(i) + string(rune('0'+j)) + strings.Repeat("v", api.MaxWord-4)
			sets[i] = append(sets[i], api.Label{Name: name, Value: value})
		}
	}
	return sets
}

// apart tells n sets of as many labels as may be, no two of which have a text in
// common: as many texts as may be.
func apart(n int) [][]api.Label {
	sets := make([][]api.Label, n)
	for i := range sets {
		for j := range api.MaxLabels {
			text := word(i) + string(rune('a'+j))
			sets[i] = append(sets[i], api.Label{Name: "n" + text, Value: text})
		}
	}
	return sets
}

// drawn tells up to n sets that rise, of few names and values, so that sets
// have much in common.
func drawn(next func(int) int, n int) [][]api.Label {
	values := []string{"1", "2", "10", "a", "b", "x|y", "\x00", "\xff", "ü", `"`, longWord}
	var sets [][]api.Label
	for range n {
		var l []api.Label
		for _, name := range []string{"A", "_", "__name__", "a", "aa", "b", longName, "x1"} {
			if next(3) > 0 {
				l = append(l, api.Label{Name: name, Value: values[next(len(values))]})
			}
		}
		sets = append(sets, l)
	}
	slices.SortFunc(sets, label.Compare)
	return slices.CompactFunc(sets, func(x, y []api.Label) bool { return label.Compare(x, y) == 0 })
}

// few are sets of up to three labels of few values: an index each of many
// picks of them.
func few() [][][]api.Label {
	all := list(nil, set("a", "x"), set("a", "x", "b", "x"), set("a", "x", "b", "y"), set("a", "y"), set("b", "a"), set("b", "x"), set("c", "x"))
	var ls [][][]api.Label
	for pick := range 1 << len(all) {
		var sets [][]api.Label
		for i, l := range all {
			if pick>>i&1 == 1 {
				sets = append(sets, l)
			}
		}
		ls = append(ls, sets)
	}
	return ls
}

// rights are an index's sets, of many kinds.
func rights() [][][]api.Label {
	ls := [][][]api.Label{
		nil, {}, list(nil), list([]api.Label{}), example(), list(nil, set("a", "x")), list(set("a", "b", "b", "a")), list(set("a", "a")), list(set("a", "a", "b", "b", "c", "c")),
		list(set("A", "1"), set("Z", "1"), set("_", "1"), set("a", "1"), set("aa", "1")), list(set("a", "\x00"), set("a", "a"), set("a", "aa"), set("a", "b"), set("a", "\x7f"), set("a", "\x80"), set("a", "\xff")),
		list(set("a", "1", "b", "1", "c", "1"), set("a", "1", "c", "1"), set("a", "2"), set("b", "1")), list(set(longName, longWord)),
		ones(1), ones(63), ones(127), ones(128), ones(129), ones(most - 1), ones(most), wide(1), wide(16), wide(most), apart(2), apart(most - 1), apart(most),
	}
	next := mixed()
	for i := range 40 {
		ls = append(ls, drawn(next, 1+6*i))
	}
	return ls
}

// made tells the index of right sets.
func made(t *testing.T, sets [][]api.Label) *index.Index {
	t.Helper()
	x, e := index.New(sets)
	if e != api.OK || x == nil {
		t.Fatalf("%s: %d", brief(sets), e)
	}
	return x
}

// has tells whether an index has just these sets, as Len and Labels tell.
func has(x *index.Index, sets [][]api.Label) bool {
	if x.Len() != len(sets) {
		return false
	}
	for id, l := range sets {
		if back, e := x.Labels(id); e != api.OK || !slices.Equal(back, l) {
			return false
		}
	}
	return true
}

// judged tells what New should: the tests' own way.
func judged(sets [][]api.Label) api.Errno {
	if len(sets) >= 257 {
		return api.ErrBig
	}
	for i, l := range sets {
		if e := label.Check(l); e != api.OK {
			return e
		}
		if i > 0 && !ahead(sets[i-1], l) {
			return api.ErrOrder
		}
	}
	return api.OK
}

// ahead tells whether one set is ahead of another one.
func ahead(a, b []api.Label) bool {
	for i := range min(len(a), len(b)) {
		if a[i].Name != b[i].Name {
			return a[i].Name < b[i].Name
		}
		if a[i].Value != b[i].Value {
			return a[i].Value < b[i].Value
		}
	}
	return len(a) < len(b)
}

// P10.1

func TestNew(t *testing.T) {
	for _, sets := range append(few(), rights()...) {
		if x := made(t, sets); !has(x, sets) {
			t.Fatalf("%s: %d sets", brief(sets), x.Len())
		}
	}
}

// A wrong is a list that is no index's, and why.
type wrong struct {
	sets [][]api.Label
	e    api.Errno
}

// wrongs are such lists, with the orders of errors among them.
func wrongs() []wrong {
	nine := set("a", "1", "b", "1", "c", "1", "d", "1", "e", "1", "f", "1", "g", "1", "h", "1", "i", "1")
	return []wrong{
		{list(set("a", "x"), set("a", "x")), api.ErrOrder}, {list(nil, nil), api.ErrOrder}, {list(nil, []api.Label{}), api.ErrOrder}, {list(set("a", "x"), nil), api.ErrOrder}, {list(set("b", "x"), set("a", "x")), api.ErrOrder},
		{list(set("a", "y"), set("a", "x")), api.ErrOrder}, {list(set("a", "x", "b", "y"), set("a", "x")), api.ErrOrder}, {list(set("a", "x"), set("a", "x", "b", "y"), set("a", "x")), api.ErrOrder}, {list(set("a", "9"), set("a", "10")), api.ErrOrder},
		{list(set("a", "x"), set("c", "x"), set("b", "x")), api.ErrOrder}, {list(set("a", "\xff"), set("a", "a")), api.ErrOrder}, {list(set("a", "x"), set("Z", "x")), api.ErrOrder}, {append(ones(most-1), set("a", word(most-2))), api.ErrOrder},
		{list(set("", "x")), api.ErrName}, {list(set("1", "x")), api.ErrName}, {list(nil, set("a-b", "x")), api.ErrName}, {list(set(longName+"n", "x")), api.ErrName}, {list(set("a", "x", "ü", "y")), api.ErrName},
		{list(set("a", "")), api.ErrArg}, {list(set("a", "x"), set("a", "x", "b", "")), api.ErrArg}, {list(set("a", longWord+"v")), api.ErrBig}, {list(set("a", huge)), api.ErrBig}, {list(nine), api.ErrBig}, {list(nil, nine), api.ErrBig},
		{list(set("b", "x", "a", "y")), api.ErrOrder}, {list(set("a", "x", "a", "y")), api.ErrOrder}, {list(set("a", "x"), set("c", "x", "c", "x")), api.ErrOrder},
		// Set by set: what stands ahead is told, whichever it is; of one set its own error is ahead of its place.
		{list(set("a", "x"), set("a", "x"), set("", "x")), api.ErrOrder}, {list(set("1", "x"), nil, nil), api.ErrName}, {list(set("b", "x"), set("a", "")), api.ErrArg}, {list(set("b", "x"), set("1", "x")), api.ErrName}, {list(set("b", "x"), set("a", huge)), api.ErrBig},
		{list(set("a", ""), set("1", "x")), api.ErrArg}, {list(set("1", "x"), set("a", "")), api.ErrName}, {list(nine, set("1", "x")), api.ErrBig}, {list(set("b", "x"), nine), api.ErrBig},
		// How many there are is ahead of what they are.
		{ones(most + 1), api.ErrBig}, {ones(3 * most), api.ErrBig}, {make([][]api.Label, most+1), api.ErrBig}, {make([][]api.Label, most), api.ErrOrder}, {append(list(set("1", "x")), ones(most)...), api.ErrBig}, {append(list(set("a", "")), ones(most)...), api.ErrBig},
	}
}

func TestNewWrong(t *testing.T) {
	for _, w := range wrongs() {
		if x, e := index.New(w.sets); e != w.e || x != nil {
			t.Errorf("%s: %v %d, not %d", brief(w.sets), x, e, w.e)
		}
	}
}

// TestNewAllShort goes through all lists of up to three of some sets.
func TestNewAllShort(t *testing.T) {
	some := list(nil, set("a", "x"), set("a", "x", "b", "x"), set("a", "xx"), set("aa", "x"), set("b", "x"), set("1", "x"), set("a", ""), set("a", longWord+"v"), set("b", "x", "a", "x"), set("Z", "\xff"))
	var walk func(sets [][]api.Label)
	walk = func(sets [][]api.Label) {
		x, e := index.New(sets)
		if e != judged(sets) || (x != nil) != (e == api.OK) {
			t.Fatalf("%s: %d, not %d", brief(sets), e, judged(sets))
		}
		if len(sets) == 3 {
			return
		}
		for _, l := range some {
			walk(append(slices.Clone(sets), l))
		}
	}
	walk(nil)
}

// TestNewEachPlace lays one wrong set to each place of a long list.
func TestNewEachPlace(t *testing.T) {
	for i := range most {
		for _, l := range [][]api.Label{set("a", ""), set("1", "x"), set("a", word(i-1)), set("a", word(i+1)), set("a", word(i)+"x")} {
			sets := ones(most)
			sets[i] = l
			if x, e := index.New(sets); e != judged(sets) || (x != nil) != (e == api.OK) {
				t.Fatalf("%q at %d: %d, not %d", l, i, e, judged(sets))
			}
		}
	}
}

func TestLabelsNone(t *testing.T) {
	for _, sets := range [][][]api.Label{nil, example(), ones(most)} {
		x := made(t, sets)
		for _, id := range []int{-1, -2, len(sets), len(sets) + 1, 1 << 32, math.MinInt, math.MaxInt} {
			if l, e := x.Labels(id); e != api.ErrNone || len(l) != 0 {
				t.Errorf("%d of %d: %q %d", id, len(sets), l, e)
			}
		}
	}
}

func TestNoIndex(t *testing.T) {
	var x *index.Index
	if x.Len() != 0 || len(x.Names()) != 0 || len(x.Values("a")) != 0 || len(x.Values("")) != 0 || len(x.Bytes()) != 0 {
		t.Error("no index has something")
	}
	for _, id := range []int{-1, 0, 1, math.MaxInt} {
		if l, e := x.Labels(id); e != api.ErrNil || len(l) != 0 {
			t.Errorf("%d: %q %d", id, l, e)
		}
	}
	for _, ms := range [][]api.Matcher{nil, asks(ask(api.Eq, "a", "x")), asks(ask(9, "a", "x")), make([]api.Matcher, 99)} {
		if l, e := x.Find(ms); e != api.ErrNil || len(l) != 0 {
			t.Errorf("%s: %d %d", brief(ms), l, e)
		}
	}
}

// P10.2

func TestFindExamples(t *testing.T) {
	x := made(t, example())
	y := made(t, list(nil, set("a", "1"), set("a", "1", "b", "1"), set("a", "12"), set("a", "2", "c", "1"), set("b", "1"), set("b", "2")))
	for _, c := range []struct {
		x    *index.Index
		ms   []api.Matcher
		want []int
	}{
		{x, asks(ask(api.Eq, "b", "y")), []int{1}}, {x, asks(ask(api.Eq, "a", "x"), ask(api.Ne, "b", "y")), []int{0}}, {x, asks(ask(api.Eq, "a", "x")), []int{0, 1}}, {x, asks(ask(api.Eq, "a", "y")), nil}, {x, asks(ask(api.Eq, "c", "x")), nil},
		{y, asks(ask(api.Eq, "a", "1")), []int{1, 2}}, {y, asks(ask(api.Re, "a", "1.*")), []int{1, 2, 3}}, {y, asks(ask(api.Re, "a", ".+")), []int{1, 2, 3, 4}}, {y, asks(ask(api.Re, "a", "1|2")), []int{1, 2, 4}}, {y, asks(ask(api.Re, "a", "2|1")), []int{1, 2, 4}},
		{y, asks(ask(api.Ne, "a", "")), []int{1, 2, 3, 4}}, {y, asks(ask(api.Nr, "a", "")), []int{1, 2, 3, 4}}, {y, asks(ask(api.Nr, "a", "1?")), []int{3, 4}}, {y, asks(ask(api.Ne, "z", "")), nil}, {y, asks(ask(api.Re, "z", ".+")), nil},
		// What has no such label has the empty value.
		{y, asks(ask(api.Ne, "a", ""), ask(api.Eq, "b", "")), []int{1, 3, 4}}, {y, asks(ask(api.Eq, "a", ""), ask(api.Ne, "b", "")), []int{5, 6}}, {y, asks(ask(api.Re, "a", ""), ask(api.Eq, "b", "1")), []int{5}}, {y, asks(ask(api.Re, "a", "2?"), ask(api.Re, "c", "1")), []int{4}},
		{y, asks(ask(api.Ne, "a", "1"), ask(api.Eq, "b", "1")), []int{5}}, {y, asks(ask(api.Eq, "b", "1"), ask(api.Ne, "a", "1")), []int{5}}, {y, asks(ask(api.Nr, "a", "1.*"), ask(api.Re, "b", ".+")), []int{5, 6}}, {y, asks(ask(api.Ne, "z", "1"), ask(api.Eq, "b", "1")), []int{2, 5}},
		{y, asks(ask(api.Eq, "z", ""), ask(api.Eq, "b", "1")), []int{2, 5}}, {y, asks(ask(api.Nr, "z", "1"), ask(api.Re, "z", ".*"), ask(api.Eq, "b", "1")), []int{2, 5}},
		{y, asks(ask(api.Eq, "a", "1"), ask(api.Eq, "a", "2")), nil}, {y, asks(ask(api.Eq, "a", "1"), ask(api.Eq, "a", "1")), []int{1, 2}}, {y, slices.Repeat(asks(ask(api.Eq, "c", "1")), api.MaxLabels), []int{4}},
		// A text that is asked for is no pattern, nor the other way round.
		{y, asks(ask(api.Eq, "a", "1|2")), nil}, {y, asks(ask(api.Eq, "a", "1.*")), nil}, {y, asks(ask(api.Re, "a", "1")), []int{1, 2}}, {y, asks(ask(api.Eq, "a", "("), ask(api.Ne, "b", "a**")), nil},
		{made(t, nil), asks(ask(api.Eq, "a", "x")), nil}, {made(t, nil), asks(ask(api.Ne, "a", "")), nil}, {made(t, list(nil)), asks(ask(api.Ne, "a", ""), ask(api.Ne, "a", "x")), nil},
	} {
		if l, e := c.x.Find(c.ms); !slices.Equal(l, c.want) || e != api.OK {
			t.Errorf("%s: %d %d, not %d", brief(c.ms), l, e, c.want)
		}
	}
}

func TestFindWrong(t *testing.T) {
	over, deep := longWord+"v", "(((((((((a)))))))))"
	one := ask(api.Eq, "a", "x")
	for _, x := range []*index.Index{made(t, nil), made(t, example()), made(t, ones(most))} {
		for _, c := range []struct {
			ms []api.Matcher
			e  api.Errno
		}{
			{nil, api.ErrArg}, {asks(), api.ErrArg}, {asks(ask(api.Ne, "a", "x")), api.ErrArg}, {asks(ask(api.Eq, "a", "")), api.ErrArg}, {asks(ask(api.Re, "a", "x*")), api.ErrArg}, {asks(ask(api.Nr, "a", "x"), ask(api.Eq, "b", "")), api.ErrArg}, {asks(ask(api.Ne, "z", "x")), api.ErrArg},
			{asks(api.Matcher{}), api.ErrArg}, {asks(ask(5, "a", "x")), api.ErrArg}, {asks(ask(-1, "a", "x")), api.ErrArg}, {asks(one, ask(0, "a", "x")), api.ErrArg}, {asks(ask(math.MaxInt, "a", "x"), one), api.ErrArg},
			{asks(ask(api.Eq, "", "x")), api.ErrName}, {asks(one, ask(api.Ne, "1", "x")), api.ErrName}, {asks(ask(api.Re, longName+"n", "x")), api.ErrName},
			{asks(ask(api.Eq, "a", over)), api.ErrBig}, {asks(one, ask(api.Nr, "a", over)), api.ErrBig}, {asks(ask(api.Eq, "a", huge)), api.ErrBig},
			{asks(ask(api.Re, "a", "(")), api.ErrSyntax}, {asks(one, ask(api.Nr, "a", "a**")), api.ErrSyntax}, {asks(ask(api.Re, "a", deep)), api.ErrDeep}, {asks(one, ask(api.Nr, "b", deep)), api.ErrDeep},
			// How many there are is ahead of what they are, the first one's error ahead of the others'.
			{slices.Repeat(asks(one), api.MaxLabels+1), api.ErrBig}, {make([]api.Matcher, api.MaxLabels+1), api.ErrBig}, {make([]api.Matcher, api.MaxLabels), api.ErrArg}, {asks(ask(api.Eq, "1", "x"), ask(api.Eq, "a", over)), api.ErrName}, {asks(ask(api.Eq, "a", over), ask(api.Eq, "1", "x")), api.ErrBig},
			{asks(ask(api.Ne, "a", "x"), ask(api.Re, "a", "(")), api.ErrSyntax},
		} {
			if l, e := x.Find(c.ms); e != c.e || len(l) != 0 || e != matcher.CheckAll(c.ms) {
				t.Errorf("%s of %d: %d %d, not %d", brief(c.ms), x.Len(), l, e, c.e)
			}
		}
	}
}

// found tells what Find should: each set is held against all matchers.
func found(sets [][]api.Label, ms []api.Matcher) []int {
	var ids []int
	for id, l := range sets {
		if matcher.All(ms, l) {
			ids = append(ids, id)
		}
	}
	return ids
}

// look holds what Find tells against what it should.
func look(t *testing.T, x *index.Index, sets [][]api.Label, ms []api.Matcher) {
	t.Helper()
	want, fault := found(sets, ms), matcher.CheckAll(ms)
	if fault != api.OK {
		want = nil
	}
	if l, e := x.Find(ms); !slices.Equal(l, want) || e != fault {
		t.Fatalf("%s of %s: %d %d, not %d %d", brief(ms), brief(sets), l, e, want, fault)
	}
}

// matchers are some of each kind, of these names and values.
func matchers(names, values []string) []api.Matcher {
	var ms []api.Matcher
	for _, name := range names {
		for _, value := range values {
			for kind := api.Eq; kind <= api.Nr; kind++ {
				ms = append(ms, ask(kind, name, value))
			}
		}
	}
	return ms
}

// TestFindAllShort asks all picks of few sets all of one and two matchers.
func TestFindAllShort(t *testing.T) {
	ms := matchers([]string{"a", "b", "z"}, []string{"", "x", "x|y", "x?", ".+"})
	for _, sets := range few() {
		x := made(t, sets)
		for i, m := range ms {
			look(t, x, sets, asks(m))
			look(t, x, sets, asks(m, ms[(i+len(sets))%len(ms)]))
		}
	}
	sets := few()[len(few())-1]
	x := made(t, sets)
	for _, m := range ms {
		for _, n := range ms {
			look(t, x, sets, asks(m, n))
		}
	}
}

func TestFind(t *testing.T) {
	next := mixed()
	ms := matchers([]string{"a", "aa", "__name__", longName, "z"}, []string{"", "1", "2", "a", "[a-b]", "1.*", "x|y", `x\|y`, "v+", "\x00", "\xff", longWord})
	for _, sets := range rights() {
		x := made(t, sets)
		for range 40 {
			var some []api.Matcher
			for range 1 + next(api.MaxLabels) {
				some = append(some, ms[next(len(ms))])
			}
			look(t, x, sets, some)
			look(t, x, sets, some[:1])
			look(t, x, sets, some[:min(2, len(some))])
		}
	}
}

// TestFindEach asks full indexes for each set by one of its labels.
func TestFindEach(t *testing.T) {
	for _, sets := range [][][]api.Label{ones(most), wide(most)} {
		x := made(t, sets)
		for id, l := range sets {
			last := l[len(l)-1]
			if ids, e := x.Find(asks(ask(api.Eq, last.Name, last.Value))); e != api.OK || !slices.Equal(ids, []int{id}) {
				t.Fatalf("%d: %d %d", id, ids, e)
			}
			others, e := x.Find(asks(ask(api.Ne, last.Name, last.Value), ask(api.Ne, last.Name, "")))
			if e != api.OK || len(others) != most-1 || slices.Contains(others, id) || !slices.IsSorted(others) {
				t.Fatalf("all but %d: %d %d", id, others, e)
			}
		}
	}
}

// P10.3

// rising tells texts, each once, rising.
func rising(texts []string) []string {
	return slices.Compact(slices.Sorted(slices.Values(texts)))
}

// words tells all names of sets, and all values of each, each once, rising.
func words(sets [][]api.Label) ([]string, map[string][]string) {
	var names []string
	values := map[string][]string{}
	for _, l := range sets {
		for _, x := range l {
			names = append(names, x.Name)
			values[x.Name] = append(values[x.Name], x.Value)
		}
	}
	for name, l := range values {
		values[name] = rising(l)
	}
	return rising(names), values
}

func TestWords(t *testing.T) {
	for _, c := range []struct {
		sets          [][]api.Label
		names, values []string
	}{
		{example(), []string{"a", "b"}, []string{"x"}}, {nil, nil, nil}, {list(nil), nil, nil}, {list(set("b", "x")), []string{"b"}, nil}, {list(set("a", "x", "aa", "y"), set("aa", "z")), []string{"a", "aa"}, []string{"x"}},
		// Byte by byte; values rise, though the sets do not stand by them.
		{list(set("A", "1", "a", "9"), set("A", "2", "a", "10"), set("A", "3", "a", "9"), set("_", "1"), set("a", "\xff"), set("aa", "1")), []string{"A", "_", "a", "aa"}, []string{"10", "9", "\xff"}},
		// A text that is a name is no value for it, nor the other way round.
		{list(set("a", "b", "b", "a")), []string{"a", "b"}, []string{"b"}},
	} {
		x := made(t, c.sets)
		if names, values := x.Names(), x.Values("a"); !slices.Equal(names, c.names) || !slices.Equal(values, c.values) {
			t.Errorf("%s: %q, %q", brief(c.sets), names, values)
		}
	}
	for _, sets := range append(few(), rights()...) {
		x := made(t, sets)
		names, values := words(sets)
		if got := x.Names(); !slices.Equal(got, names) {
			t.Fatalf("%s: %s", brief(sets), brief(got))
		}
		for _, name := range append(names, "", "z", "A", "1", "x", "a ", "\xff", longName, huge) {
			if got := x.Values(name); !slices.Equal(got, values[name]) {
				t.Fatalf("%.40q of %s: %s", name, brief(sets), brief(got))
			}
		}
	}
}

// P10.4

// laid tells sets as an index's bytes, numbers by a library: the tests' own way.
func laid(sets [][]api.Label) []byte {
	var texts []string
	for _, l := range sets {
		for _, x := range l {
			texts = append(texts, x.Name, x.Value)
		}
	}
	return laidBy(rising(texts), sets)
}

// laidBy tells sets as bytes, with these texts ahead of them.
func laidBy(texts []string, sets [][]api.Label) []byte {
	b := binary.AppendUvarint(nil, uint64(len(texts)))
	for _, s := range texts {
		b = append(binary.AppendUvarint(b, uint64(len(s))), s...)
	}
	b = binary.AppendUvarint(b, uint64(len(sets)))
	for _, l := range sets {
		b = binary.AppendUvarint(b, uint64(len(l)))
		for _, x := range l {
			b = binary.AppendUvarint(b, uint64(slices.Index(texts, x.Name)))
			b = binary.AppendUvarint(b, uint64(slices.Index(texts, x.Value)))
		}
	}
	return b
}

func TestBytes(t *testing.T) {
	for _, c := range []struct {
		sets [][]api.Label
		want string
	}{
		{example(), small}, {nil, "\x00\x00"}, {list(nil), "\x00\x01\x00"}, {list(set("a", "a")), "\x01\x01a\x01\x01\x00\x00"}, {list(set("a", "b", "b", "a")), "\x02\x01a\x01b\x01\x02\x00\x01\x01\x00"},
		{list(nil, set("a", "x")), "\x02\x01a\x01x\x02\x00\x01\x00\x01"}, {list(set("b", "\xff"), set("b", "\xff", "c", "a")), "\x04\x01a\x01b\x01c\x01\xff\x02\x01\x01\x03\x02\x01\x03\x02\x00"},
	} {
		if b := made(t, c.sets).Bytes(); string(b) != c.want {
			t.Errorf("%s: %q", brief(c.sets), b)
		}
	}
	for _, sets := range append(few(), rights()...) {
		if b := made(t, sets).Bytes(); !bytes.Equal(b, laid(sets)) {
			t.Fatalf("%s: %s", brief(sets), brief(b))
		}
	}
}

func TestOf(t *testing.T) {
	for _, sets := range append(few(), rights()...) {
		b := laid(sets)
		x, e := index.Of(b)
		if e != api.OK || x == nil || !has(x, sets) || !bytes.Equal(x.Bytes(), b) {
			t.Fatalf("%s: %d", brief(sets), e)
		}
		names, values := words(sets)
		if !slices.Equal(x.Names(), names) {
			t.Fatalf("%s: %s", brief(sets), brief(x.Names()))
		}
		for _, name := range names {
			if !slices.Equal(x.Values(name), values[name]) {
				t.Fatalf("%q of %s: %s", name, brief(sets), brief(x.Values(name)))
			}
			look(t, x, sets, asks(ask(api.Re, name, ".+")))
		}
	}
}

func TestOfWrong(t *testing.T) {
	ones257, texts := laid(ones(most+1)), []string{"a", "b", "x", "y"}
	nine := set("a", "x", "b", "x", "c", "x", "d", "x", "e", "x", "f", "x", "g", "x", "h", "x", "i", "x")
	high := "\xff\xff\xff\xff\xff\xff\xff\xff\x7f" // the highest number there is
	for _, b := range []string{
		"", "\x00", "\x01", "\x80", "\x00\x01", "\x00\x00\x00", "\x80\x00\x00", "\x00\x80\x00", small + "\x00", small + "\xff", small[1:], "\x00" + small,
		// A text that no set has, one twice, texts that do not rise, one that is missing.
		"\x01\x01a\x00", "\x01\x00\x00", string(laidBy([]string{"a", "b", "x", "y", "z"}, example())), string(laidBy([]string{"", "a", "b", "x", "y"}, example())), string(laidBy([]string{"a", "b", "x", "x", "y"}, example())), string(laidBy([]string{"a", "a", "b", "x", "y"}, example())),
		string(laidBy([]string{"b", "a", "x", "y"}, example())), string(laidBy([]string{"a", "b", "y", "x"}, example())), string(laidBy([]string{"x", "y", "a", "b"}, example())), "\x03\x01a\x01b\x01x\x02\x01\x00\x02\x02\x00\x02\x01\x03",
		// Places beyond the texts.
		"\x00\x01\x01\x00\x00", "\x02\x01a\x01x\x01\x01\x00\x02", "\x02\x01a\x01x\x01\x01\x02\x01", "\x02\x01a\x01x\x01\x01\x00" + high, "\x02\x01a\x01x\x01\x01" + high + "\x01", "\x02\x01a\x01x\x01\x01\x00\x80\x80\x80\x80\x80\x80\x80\x80\x80\x02",
		// Numbers that have another form.
		"\x82\x00\x01a\x01x\x01\x01\x00\x01", "\x02\x81\x00a\x01x\x01\x01\x00\x01", "\x02\x01a\x01x\x81\x00\x01\x00\x01", "\x02\x01a\x01x\x01\x81\x00\x00\x01", "\x02\x01a\x01x\x01\x01\x80\x00\x01", "\x02\x01a\x01x\x01\x01\x00\x81\x00",
		// Sets that are not right, that do not rise, or are too many.
		string(laid(list(set("1", "x")))), string(laid(list(set("a", "")))), string(laid(list(set("", "a")))), string(laid(list(set("a", longWord+"v")))), string(laid(list(set(longName+"n", "x")))), string(laid(list(set("b", "x", "a", "y")))), string(laid(list(set("a", "x", "a", "y")))), string(laid(list(nine))),
		string(laid(list(set("a", "x"), set("a", "x")))), string(laid(list(nil, nil))), string(laid(list(set("a", "x"), nil))), string(laid(list(set("b", "x"), set("a", "x")))), string(laidBy(texts, list(set("a", "x", "b", "y"), set("a", "x")))), string(ones257), string(laid(make([][]api.Label, most+1))),
		// Ever so many, of which nothing is there.
		high, "\x00" + high, "\x02\x01a\x01x\x01" + high, "\x02\x01a" + high, "\x81\x20", "\x00\x80\x02" + strings.Repeat("\x00", 300), high + strings.Repeat("\x00", 1<<20), "\x00" + high + strings.Repeat("\x00", 1<<20), strings.Repeat("\x80", 9), strings.Repeat("\xff", 1<<16),
	} {
		if x, e := index.Of([]byte(b)); e != api.ErrCorrupt || x != nil {
			t.Errorf("%.80q: %v %d", b, x, e)
		}
	}
	if b := laid(example()); string(b) != small {
		t.Fatalf("%q", b)
	}
	// What is wrong above is so by one thing alone.
	for _, b := range []string{"\x00\x00", "\x02\x01a\x01x\x01\x01\x00\x01", string(laid(list(nine[:8]))), string(laid(ones(most))), string(laidBy(texts, example()))} {
		if _, e := index.Of([]byte(b)); e != api.OK {
			t.Errorf("%.80q: %d", b, e)
		}
	}
}

// A row is bytes that are read from the front on.
type row struct {
	b   []byte
	bad bool
}

// number tells the next number, in its one form.
func (r *row) number() int {
	u, n := binary.Uvarint(r.b)
	if r.bad || n < 1 || n > 9 || n > 1 && r.b[n-1] == 0 {
		r.bad = true
		return 0
	}
	r.b = r.b[n:]
	return int(u)
}

// text tells the next text.
func (r *row) text() string {
	n := r.number()
	if r.bad || n > len(r.b) {
		r.bad = true
		return ""
	}
	s := string(r.b[:n])
	r.b = r.b[n:]
	return s
}

// label tells the next label, of places of texts, which it marks.
func (r *row) label(texts []string, met map[int]bool) api.Label {
	n, v := r.number(), r.number()
	if r.bad || n >= len(texts) || v >= len(texts) {
		r.bad = true
		return api.Label{}
	}
	met[n], met[v] = true, true
	return api.Label{Name: texts[n], Value: texts[v]}
}

// read tells the sets of an index's bytes, and whether they are some: it looks
// at what the chapter says of them, and lays nothing down.
func read(b []byte) ([][]api.Label, bool) {
	r := &row{b: b}
	var texts []string
	for n := r.number(); n > 0 && !r.bad; n-- {
		texts = append(texts, r.text())
		if i := len(texts) - 1; i > 0 && texts[i-1] >= texts[i] {
			r.bad = true
		}
	}
	var sets [][]api.Label
	met := map[int]bool{}
	for n := r.number(); n > 0 && !r.bad; n-- {
		var l []api.Label
		for m := r.number(); m > 0 && !r.bad; m-- {
			l = append(l, r.label(texts, met))
		}
		sets = append(sets, l)
	}
	if r.bad || len(r.b) > 0 || len(met) != len(texts) || judged(sets) != api.OK {
		return nil, false
	}
	return sets, true
}

// hold holds what Of tells against what it should, and tells whether it told
// an index.
func hold(t *testing.T, b []byte) bool {
	t.Helper()
	sets, right := read(b)
	x, e := index.Of(b)
	if !right {
		if e != api.ErrCorrupt || x != nil {
			t.Fatalf("%.80q: %v %d", b, x, e)
		}
		return false
	}
	if e != api.OK || !has(x, sets) || !bytes.Equal(x.Bytes(), b) {
		t.Fatalf("%.80q: %d, not %s", b, e, brief(sets))
	}
	return true
}

func TestOfCut(t *testing.T) {
	for _, sets := range rights() {
		b := laid(sets)
		for n := 0; n < len(b); n += 1 + len(b)/200 {
			if x, e := index.Of(b[:n]); e != api.ErrCorrupt || x != nil {
				t.Fatalf("%d bytes of %s: %v %d", n, brief(sets), x, e)
			}
		}
		if x, e := index.Of(append(b, 0)); e != api.ErrCorrupt || x != nil {
			t.Fatalf("one more byte behind %s: %v %d", brief(sets), x, e)
		}
	}
}

// TestOfTurned puts each other byte to each place of some indexes' bytes.
func TestOfTurned(t *testing.T) {
	right := 0
	for _, sets := range [][][]api.Label{nil, list(nil), example(), list(nil, set("a", "b", "b", "a"), set("a", "x", "c", "d")), list(set("a", "1", "b", "1", "c", "1"), set("a", "1", "c", "1"), set("a", "2"), set("b", "1"))} {
		b := laid(sets)
		for i := range b {
			for u := range 256 {
				c := bytes.Clone(b)
				c[i] = byte(u)
				if hold(t, c) {
					right++
				}
			}
			hold(t, slices.Delete(bytes.Clone(b), i, i+1))
			for _, u := range []byte{0, 1, 2, 0x80, 'a'} {
				hold(t, slices.Insert(bytes.Clone(b), i, u))
			}
		}
	}
	if right < 500 {
		t.Errorf("only %d indexes", right)
	}
}

// TestOfAllShort goes through all of some texts and up to six bytes behind them.
func TestOfAllShort(t *testing.T) {
	right := 0
	for _, front := range []string{"", "\x00", "\x01\x01a", "\x02\x01a\x01b", "\x02\x01a\x01x", "\x03\x01a\x01b\x01c"} {
		var walk func(b []byte)
		walk = func(b []byte) {
			if hold(t, b) {
				right++
			}
			if len(b) == len(front)+6 {
				return
			}
			for _, u := range []byte{0, 1, 2, 3, 0x80} {
				walk(append(bytes.Clone(b), u))
			}
		}
		walk([]byte(front))
	}
	if right < 20 {
		t.Errorf("only %d indexes", right)
	}
}

func TestOfMixed(t *testing.T) {
	next := mixed()
	for range 20000 {
		b := laid(drawn(next, 1+next(6)))
		for range 1 + next(3) {
			b[next(len(b))] ^= 1 << next(8)
		}
		hold(t, b)
	}
}

// P10.5

// TestParts holds the ids of each name's values, and of the sets without it,
// against all ids.
func TestParts(t *testing.T) {
	for _, sets := range append(few(), rights()...) {
		x := made(t, sets)
		all := make([]int, x.Len())
		for id := range all {
			all[id] = id
		}
		for _, name := range append(x.Names(), "z") {
			var ids []int
			for _, value := range x.Values(name) {
				some, e := x.Find(asks(ask(api.Eq, name, value)))
				if e != api.OK || len(some) == 0 || !slices.IsSorted(some) {
					t.Fatalf("%q of %q: %d %d", value, name, some, e)
				}
				ids = append(ids, some...)
			}
			named, e := x.Find(asks(ask(api.Ne, name, "")))
			slices.Sort(ids)
			if e != api.OK || !slices.Equal(named, ids) {
				t.Fatalf("%q of %s: %d, not %d", name, brief(sets), named, ids)
			}
			// What is without the name can be asked for only beside another one.
			for id, l := range sets {
				if label.Get(l, name) == "" {
					ids = append(ids, id)
				}
			}
			slices.Sort(ids)
			if !slices.Equal(ids, all) {
				t.Fatalf("%q of %s: %d", name, brief(sets), ids)
			}
		}
	}
}

// TestPartsBeside parts what a matcher finds by the values of another name.
func TestPartsBeside(t *testing.T) {
	next := mixed()
	for range 30 {
		x := made(t, drawn(next, most))
		for _, m := range asks(ask(api.Ne, "a", ""), ask(api.Re, "b", "[ab]"), ask(api.Eq, "x1", "2")) {
			whole, e := x.Find(asks(m))
			if e != api.OK {
				t.Fatal(e)
			}
			for _, name := range x.Names() {
				ids, _ := x.Find(asks(m, ask(api.Eq, name, "")))
				for _, value := range x.Values(name) {
					some, _ := x.Find(asks(ask(api.Eq, name, value), m))
					ids = append(ids, some...)
				}
				slices.Sort(ids)
				if !slices.Equal(ids, whole) {
					t.Fatalf("%s by %q: %d, not %d", brief(m), name, ids, whole)
				}
			}
		}
	}
}

// TestTogether holds what matchers find together against what each finds.
func TestTogether(t *testing.T) {
	next := mixed()
	// Each of them may be asked alone.
	ms := slices.DeleteFunc(matchers([]string{"a", "aa", "b", "__name__", "z"}, []string{"", "1", "a", "[ab]", "1.*", "x|y", "v+", ".+"}), func(m api.Matcher) bool {
		return matcher.CheckAll(asks(m)) != api.OK
	})
	for _, sets := range [][][]api.Label{example(), few()[255], drawn(next, 60), drawn(next, most), wide(16)} {
		x := made(t, sets)
		each := make([][]int, len(ms))
		for i, m := range ms {
			each[i], _ = x.Find(asks(m))
		}
		for i, m := range ms {
			for j, n := range ms {
				ids, e := x.Find(asks(m, n))
				both := slices.DeleteFunc(slices.Clone(each[i]), func(id int) bool { return !slices.Contains(each[j], id) })
				if e != api.OK || !slices.Equal(ids, both) {
					t.Fatalf("%s and %s: %d %d, not %d", brief(m), brief(n), ids, e, both)
				}
			}
		}
	}
}

// The rules that hold everywhere: what is handed in is not changed and not
// kept, and an answer is new memory.

// spoil puts other things into a list, and into the room behind it.
func spoil[E any](l []E, other E) {
	l = l[:cap(l)]
	for i := range l {
		l[i] = other
	}
}

func TestNewKeepsNothing(t *testing.T) {
	room := append(example(), set("z", "z"))
	for i := range room {
		room[i] = append(room[i], api.Label{Name: "behind", Value: "it"})[:len(room[i])]
	}
	x := made(t, room[:2])
	if !slices.EqualFunc(room, append(example(), set("z", "z")), slices.Equal[[]api.Label]) || room[0][:2][1].Name != "behind" {
		t.Fatalf("what was handed in is %q", room)
	}
	for _, l := range room {
		spoil(l, api.Label{Name: "other", Value: "word"})
	}
	spoil(room, nil)
	if !has(x, example()) || string(x.Bytes()) != small {
		t.Errorf("what was handed in is kept: %q", x.Bytes())
	}
}

func TestOfKeepsNothing(t *testing.T) {
	b := []byte(small + "behind")
	x, e := index.Of(b[:len(small)])
	if e != api.OK || string(b) != small+"behind" {
		t.Fatalf("what was handed in is %q %d", b, e)
	}
	spoil(b, '#')
	if !has(x, example()) || string(x.Bytes()) != small {
		t.Errorf("what was handed in is kept: %q", x.Bytes())
	}
}

func TestFindKeepsNothing(t *testing.T) {
	x := made(t, example())
	ms := asks(ask(api.Eq, "a", "x"), ask(api.Ne, "b", "y"), ask(api.Eq, "behind", "it"))
	back := slices.Clone(ms)
	if l, e := x.Find(ms[:2]); !slices.Equal(l, []int{0}) || e != api.OK || !slices.Equal(ms, back) {
		t.Errorf("%d %d, and what was handed in is %s", l, e, brief(ms))
	}
}

func TestAnswersAreNew(t *testing.T) {
	for _, sets := range [][][]api.Label{example(), ones(most), wide(9), list(nil, set("a", "1"), set("a", "2", "b", "1"))} {
		x := made(t, sets)
		b, names, values := x.Bytes(), x.Names(), x.Values("a")
		ms := asks(ask(api.Re, "a", ".+"))
		ids, _ := x.Find(ms)
		one, _ := x.Labels(1)
		backs := [][]string{slices.Clone(names), slices.Clone(values)}
		want, wantIds := bytes.Clone(b), slices.Clone(ids)
		// What one call told is spoiled, and what another one told stays.
		for _, m := range matchers([]string{"a", "b"}, []string{"", "x", "1", ".*", ".+"}) {
			l, _ := x.Find(asks(ask(api.Re, "a", ".+"), m))
			spoil(l, -9)
			l, _ = x.Find(asks(m))
			spoil(l, -9)
		}
		spoil(x.Bytes(), '#')
		spoil(x.Names(), "other")
		spoil(x.Values("a"), "other")
		for id := range sets {
			l, _ := x.Labels(id)
			spoil(l, api.Label{Name: "other", Value: "word"})
		}
		again, _ := x.Find(ms)
		if !has(x, sets) || !bytes.Equal(x.Bytes(), want) || !slices.Equal(again, wantIds) || !slices.Equal(x.Names(), backs[0]) || !slices.Equal(x.Values("a"), backs[1]) {
			t.Fatalf("%s: an answer shares memory with the index", brief(sets))
		}
		if !bytes.Equal(b, want) || !slices.Equal(ids, wantIds) || !slices.Equal(names, backs[0]) || !slices.Equal(values, backs[1]) || !slices.Equal(one, sets[1]) {
			t.Fatalf("%s: an answer shares memory with another one", brief(sets))
		}
	}
}
