package matcher_test

import (
	"fmt"
	"math"
	"slices"
	"strings"
	"testing"

	"gauge/api"
	"gauge/matcher"
	"gauge/regex"
)

// set tells labels of names and values, one behind the other.
func set(words ...string) []api.Label {
	var l []api.Label
	for i := 0; i < len(words); i += 2 {
		l = append(l, api.Label{Name: words[i], Value: words[i+1]})
	}
	return l
}

// ask tells a matcher.
func ask(kind int, name, value string) api.Matcher {
	return api.Matcher{Kind: kind, Name: name, Value: value}
}

// asks tells matchers in one list.
func asks(ms ...api.Matcher) []api.Matcher {
	return ms
}

// brief tells a matcher in few bytes, however long its texts are.
func brief(m api.Matcher) string {
	return fmt.Sprintf("kind %d, %.70q, %.70q", m.Kind, m.Name, m.Value)
}

// kinds are the right ones.
func kinds() []int {
	return []int{api.Eq, api.Ne, api.Re, api.Nr}
}

// everyByte is a text of all bytes.
func everyByte() string {
	b := make([]byte, 256)
	for i := range b {
		b[i] = byte(i)
	}
	return string(b)
}

// chopped are the pieces of all bytes, as long as a value may be.
func chopped() []string {
	var ss []string
	for s := everyByte(); s != ""; s = s[api.MaxWord:] {
		ss = append(ss, s[:api.MaxWord])
	}
	return ss
}

var (
	full = strings.Repeat("v", api.MaxWord)   // as long as a value may be
	over = strings.Repeat("v", api.MaxWord+1) // one byte longer
	huge = strings.Repeat("v", 1<<20)
)

// A part is one of a matcher's parts, and the error that it is for its own.
type part[T any] struct {
	x T
	e api.Errno
}

// kindParts are kinds, right and wrong.
func kindParts() []part[int] {
	ps := []part[int]{{api.Eq, api.OK}, {api.Ne, api.OK}, {api.Re, api.OK}, {api.Nr, api.OK}}
	for _, k := range []int{0, 5, 6, 7, 8, -1, -2, -3, -4, 255, 256, 257, 258, 1<<32 + 1, 1<<16 + 3, math.MinInt, math.MinInt + 1, math.MaxInt} {
		ps = append(ps, part[int]{k, api.ErrArg})
	}
	return ps
}

// nameParts are names, right and wrong.
func nameParts() []part[string] {
	ps := []part[string]{
		{"a", api.OK}, {"_", api.OK}, {"Z9", api.OK}, {"__name__", api.OK}, {"job", api.OK}, {strings.Repeat("n", api.MaxName), api.OK},
	}
	for _, s := range []string{"", "1", "9a", "a-b", "a b", " a", "a ", "a:b", "a.b", "ü", "a\x00", "\x00", "\xff", "a\xff", `a"`, "=", strings.Repeat("n", api.MaxName+1), huge} {
		ps = append(ps, part[string]{s, api.ErrName})
	}
	return ps
}

// valueParts are values, with the error that they are as patterns.
func valueParts() []part[string] {
	var ps []part[string]
	for e, ss := range map[api.Errno][]string{
		api.OK:        {"", "a", "x|y", "a.c", "(ab|c)*", "[^a]", `a\.b`, "\x00\xff", "ü", "|", `"`, full, strings.Repeat("|", 64), "((((((((a))))))))"},
		api.ErrSyntax: {"(", ")", "[", "]", "*", "a**", "[]", "[b-a]", `\`, `\a`, "(a", "+x", strings.Repeat("(", 64), "(((((((((a)))))))))" + ")", strings.Repeat("v", 63) + "("},
		api.ErrDeep:   {"(((((((((a)))))))))", "((((((((((((()))))))))))))", strings.Repeat("(", 32) + strings.Repeat(")", 32)},
		api.ErrBig:    {over, huge, strings.Repeat("(", 65), strings.Repeat("*", 65), strings.Repeat("\x00", 65), strings.Repeat("ü", 33), strings.Repeat("(", 33) + strings.Repeat(")", 33)},
	} {
		for _, s := range ss {
			ps = append(ps, part[string]{s, e})
		}
	}
	return ps
}

// judged tells what Check should, of the errors of the three parts.
func judged(kind part[int], name, value part[string]) api.Errno {
	if kind.e != api.OK {
		return kind.e
	}
	if name.e != api.OK {
		return name.e
	}
	if value.e == api.ErrBig || kind.x == api.Re || kind.x == api.Nr {
		return value.e
	}
	return api.OK
}

// A wrong is a matcher that may not be, and why.
type wrong struct {
	m api.Matcher
	e api.Errno
}

// wrongs are such matchers, with the orders of errors among them.
func wrongs() []wrong {
	return []wrong{
		{api.Matcher{}, api.ErrArg}, {ask(0, "a", "x"), api.ErrArg}, {ask(5, "a", "y"), api.ErrArg}, {ask(-1, "a", "x"), api.ErrArg}, {ask(math.MaxInt, "a", ""), api.ErrArg},
		{ask(api.Eq, "", "x"), api.ErrName}, {ask(api.Ne, "1", "x"), api.ErrName}, {ask(api.Re, "a-b", ".*"), api.ErrName}, {ask(api.Nr, "ü", "x"), api.ErrName}, {ask(api.Ne, strings.Repeat("n", 33), ""), api.ErrName},
		{ask(api.Eq, "a", over), api.ErrBig}, {ask(api.Ne, "a", over), api.ErrBig}, {ask(api.Re, "a", over), api.ErrBig}, {ask(api.Nr, "a", over), api.ErrBig}, {ask(api.Nr, "a", huge), api.ErrBig},
		{ask(api.Re, "a", "("), api.ErrSyntax}, {ask(api.Nr, "a", "("), api.ErrSyntax}, {ask(api.Re, "a", "a**"), api.ErrSyntax}, {ask(api.Nr, "a", "[]"), api.ErrSyntax},
		{ask(api.Re, "a", "(((((((((a)))))))))"), api.ErrDeep}, {ask(api.Nr, "a", "(((((((((a)))))))))"), api.ErrDeep},
		// The kind is ahead of the name, the name of the length, the length of the pattern.
		{ask(5, "", huge), api.ErrArg}, {ask(0, "1", "("), api.ErrArg}, {ask(-2, "a", over), api.ErrArg}, {ask(6, "1", "x"), api.ErrArg},
		{ask(api.Eq, "1", over), api.ErrName}, {ask(api.Re, "1", "("), api.ErrName}, {ask(api.Nr, "", over), api.ErrName}, {ask(api.Re, "1", "(((((((((a)))))))))"), api.ErrName},
		{ask(api.Re, "a", strings.Repeat("(", 65)), api.ErrBig}, {ask(api.Nr, "a", strings.Repeat("*", 65)), api.ErrBig},
	}
}

// patterns are right patterns, and all of values that they fit.
func patterns() map[string][]string {
	all := longFrom(0, api.MaxWord)
	more := longFrom(1, api.MaxWord)
	ones := longFrom(1, 1)
	return map[string][]string{
		"": {""}, "()": {""}, "|": {""}, "a": {"a"}, "x|y": {"x", "y"}, `x\|y`: {"x|y"}, "x|": {"x", ""}, "a.c": {"a.c", "abc"}, `a\.c`: {"a.c"}, "a*": {"", "a", "aa"}, "a+": {"a", "aa"}, "a?": {"", "a"},
		"(ab|c)*": {"", "ab", "abc"}, "[^a]": {"A", "b", "x", "y", ".", "\x00", "\n", "\xff", `"`}, "[a-c]+": {"a", "aa", "ab", "abc", "b"}, "v*": {"", full}, full: {full}, "ü": {"ü"}, "..": {"aa", "ab", "xy", "ü"}, `"`: {`"`},
		".*": all, ".+": more, ".": ones, ".?": append([]string{""}, ones...), "^a$": nil, "ABC": nil, "(.*)(.*)": all,
	}
}

// longFrom are the values of so many bytes.
func longFrom(least, most int) []string {
	return slices.DeleteFunc(values(), func(s string) bool { return len(s) < least || len(s) > most })
}

// values are texts that a label may have, some beyond what is right.
func values() []string {
	return []string{
		"", "a", "aa", "ab", "abc", "a.c", "A", "b", "x", "y", "x|y", "xy", ".", "\x00", "\n", "\xff", "ü", `"`, "a=b", "localhost:9090", full,
		// These are too long for any pattern.
		over, huge, strings.Repeat("a", 65),
	}
}

// rights are matchers of label a that may be: of plain texts, and of patterns.
func rights() []api.Matcher {
	var ms []api.Matcher
	for _, v := range values() {
		if len(v) <= api.MaxWord {
			ms = append(ms, ask(api.Eq, "a", v), ask(api.Ne, "a", v))
		}
	}
	for p := range patterns() {
		ms = append(ms, ask(api.Re, "a", p), ask(api.Nr, "a", p), ask(api.Eq, "a", p), ask(api.Ne, "a", p))
	}
	slices.SortFunc(ms, func(x, y api.Matcher) int { return strings.Compare(brief(x), brief(y)) })
	return ms
}

// some are a few of them, of all kinds.
func some() []api.Matcher {
	var ms []api.Matcher
	for i, m := range rights() {
		if i%3 == 0 {
			ms = append(ms, m)
		}
	}
	return ms
}

// told tells whether a right matcher, whose pattern is one of patterns, should
// fit a value.
func told(m api.Matcher, value string) bool {
	switch m.Kind {
	case api.Eq:
		return value == m.Value
	case api.Ne:
		return value != m.Value
	case api.Re:
		return slices.Contains(patterns()[m.Value], value)
	}
	return !slices.Contains(patterns()[m.Value], value)
}

// around are sets in which label a has a value; they are right, if the value is.
func around(value string) [][]api.Label {
	return [][]api.Label{
		set("a", value), set("a", value, "b", "x"), set("A", "x", "_a", "y", "a", value, "aa", "x"), set("__name__", "a", "a", value),
	}
}

// without are sets that have no label a.
func without() [][]api.Label {
	return [][]api.Label{nil, {}, set("b", "x"), set("A", "x", "_a", "x", "aa", "x", "b", "x"), set("b", "a", "x", "a")}
}

// sets are all of these.
func sets() [][]api.Label {
	ls := without()
	for _, v := range values() {
		ls = append(ls, around(v)...)
	}
	return ls
}

// P8.1

func TestCheck(t *testing.T) {
	for _, k := range kindParts() {
		for _, n := range nameParts() {
			for _, v := range valueParts() {
				m := ask(k.x, n.x, v.x)
				if e := matcher.Check(m); e != judged(k, n, v) {
					t.Fatalf("%s: %d, not %d", brief(m), e, judged(k, n, v))
				}
			}
		}
	}
	for _, w := range wrongs() {
		if e := matcher.Check(w.m); e != w.e {
			t.Errorf("%s: %d, not %d", brief(w.m), e, w.e)
		}
	}
	for _, m := range rights() {
		if e := matcher.Check(m); e != api.OK {
			t.Errorf("%s: %d", brief(m), e)
		}
	}
}

func TestCheckBytes(t *testing.T) {
	first := "abcdefghijklmnopqrstuvwxyzABCDEFGHIJKLMNOPQRSTUVWXYZ_"
	for i := range 256 {
		c := string([]byte{byte(i)})
		for _, k := range kinds() {
			for name, right := range map[string]bool{c: strings.Contains(first, c), "a" + c: strings.Contains(first+"0123456789", c)} {
				want := api.OK
				if !right {
					want = api.ErrName
				}
				if e := matcher.Check(ask(k, name, "x")); e != want {
					t.Errorf("name %q of kind %d: %d", name, k, e)
				}
			}
			want := api.OK
			if k == api.Re || k == api.Nr {
				want = regex.Check(c)
			}
			if e := matcher.Check(ask(k, "a", c)); e != want {
				t.Errorf("value %q of kind %d: %d", c, k, e)
			}
		}
	}
	for _, s := range chopped() {
		for _, k := range []int{api.Eq, api.Ne} {
			if e := matcher.Check(ask(k, "a", s)); e != api.OK {
				t.Errorf("%q: %d", s, e)
			}
			if e := matcher.Check(ask(k, "a", s+"x")); e != api.ErrBig {
				t.Errorf("%q: %d", s+"x", e)
			}
		}
	}
}

// P8.2

func TestFitsExamples(t *testing.T) {
	for _, c := range []struct {
		m    api.Matcher
		l    []api.Label
		want bool
	}{
		{ask(api.Eq, "a", "x"), set("a", "x"), true}, {ask(api.Eq, "a", "x"), set("a", "y"), false}, {ask(api.Eq, "a", "x"), nil, false}, {ask(api.Eq, "a", "x"), set("b", "x"), false},
		{ask(api.Ne, "a", "x"), nil, true}, {ask(api.Ne, "a", "x"), set("a", "x"), false}, {ask(api.Ne, "a", "x"), set("a", "y"), true}, {ask(api.Ne, "a", "x"), set("b", "x"), true},
		{ask(api.Re, "a", "x|y"), set("a", "y"), true}, {ask(api.Re, "a", "x|y"), set("a", "xy"), false}, {ask(api.Re, "a", "x|y"), nil, false}, {ask(api.Re, "a", "x"), set("a", "xx"), false},
		{ask(api.Re, "a", ""), nil, true}, {ask(api.Re, "a", ""), set("a", "x"), false}, {ask(api.Re, "a", "x*"), nil, true}, {ask(api.Re, "a", ".*"), nil, true}, {ask(api.Re, "a", ".+"), nil, false},
		{ask(api.Nr, "a", "x|y"), set("a", "y"), false}, {ask(api.Nr, "a", "x|y"), set("a", "xy"), true}, {ask(api.Nr, "a", "x|y"), nil, true}, {ask(api.Nr, "a", ""), nil, false}, {ask(api.Nr, "a", ""), set("a", "x"), true},
		{ask(api.Eq, "a", ""), nil, true}, {ask(api.Eq, "a", ""), set("b", "x"), true}, {ask(api.Eq, "a", ""), set("a", "x"), false}, {ask(api.Ne, "a", ""), nil, false}, {ask(api.Ne, "a", ""), set("a", "x"), true},
		// A kind that asks for a text takes no pattern for it, nor the other way round.
		{ask(api.Eq, "a", "x|y"), set("a", "x"), false}, {ask(api.Eq, "a", "x|y"), set("a", "x|y"), true}, {ask(api.Re, "a", "x|y"), set("a", "x|y"), false}, {ask(api.Eq, "a", "("), set("a", "("), true}, {ask(api.Ne, "a", "a**"), set("a", "a**"), false},
		{ask(api.Eq, "__name__", "up"), set("__name__", "up", "job", "x"), true}, {ask(api.Re, "job", "node|db.*"), set("__name__", "up", "job", "db-1"), true}, {ask(api.Nr, "job", "node|db.*"), set("__name__", "up", "job", "db-1"), false},
		// Of labels that are no right set, too: the first one of that name is asked for.
		{ask(api.Eq, "a", "2"), set("b", "1", "a", "2", "a", "3"), true}, {ask(api.Eq, "a", "3"), set("b", "1", "a", "2", "a", "3"), false}, {ask(api.Ne, "a", "3"), set("a", "", "a", "3"), true}, {ask(api.Re, "a", "3"), set("a", "2", "a", "3"), false},
		{ask(api.Eq, "a", ""), set("a", "", "a", "x"), true}, {ask(api.Eq, "b", "9"), append(make([]api.Label, 500), set("b", "9")...), true},
		{ask(api.Eq, "a", "x"), set("A", "x"), false}, {ask(api.Eq, "a", "x"), set("aa", "x"), false}, {ask(api.Eq, "aa", "x"), set("a", "x"), false}, {ask(api.Eq, "a", "X"), set("a", "x"), false}, {ask(api.Eq, "x", "a"), set("a", "x"), false},
	} {
		if ok := matcher.Fits(c.m, c.l); ok != c.want {
			t.Errorf("%s, and %q: %v", brief(c.m), c.l, ok)
		}
	}
}

func TestFits(t *testing.T) {
	for _, m := range rights() {
		for _, v := range values() {
			for _, l := range around(v) {
				if ok := matcher.Fits(m, l); ok != told(m, v) {
					t.Fatalf("%s, and %.70q: %v", brief(m), v, ok)
				}
			}
		}
		for _, l := range without() {
			if ok := matcher.Fits(m, l); ok != told(m, "") {
				t.Fatalf("%s, and %q: %v", brief(m), l, ok)
			}
		}
	}
}

// A value that is too long for a pattern is fitted by none, so that each
// pattern's opposite fits it.
func TestFitsLongValues(t *testing.T) {
	for _, v := range []string{over, huge, strings.Repeat("\x00", 65), strings.Repeat("v", 66)} {
		for _, l := range around(v) {
			for p := range patterns() {
				if matcher.Fits(ask(api.Re, "a", p), l) || !matcher.Fits(ask(api.Nr, "a", p), l) {
					t.Errorf("%q fits %d bytes", p, len(v))
				}
			}
			if matcher.Fits(ask(api.Eq, "a", full), l) || !matcher.Fits(ask(api.Ne, "a", full), l) {
				t.Errorf("%d bytes are the text of 64", len(v))
			}
		}
		// Where another label has it, nothing hangs on it.
		for _, l := range [][]api.Label{set("a", "x", "b", v), set("A", v, "a", "x"), set("a", "x", "a", v)} {
			if !matcher.Fits(ask(api.Re, "a", "x"), l) || matcher.Fits(ask(api.Nr, "a", "x"), l) || !matcher.Fits(ask(api.Eq, "a", "x"), l) {
				t.Errorf("a label of %d bytes is asked for", len(v))
			}
		}
	}
	for p, want := range map[string]bool{"v*": true, "v+": true, ".*": true, full: true, "v": false, "": false} {
		if ok := matcher.Fits(ask(api.Re, "a", p), set("a", full)); ok != want {
			t.Errorf("%q and 64 bytes: %v", p, ok)
		}
		if ok := matcher.Fits(ask(api.Nr, "a", p), set("a", full)); ok == want {
			t.Errorf("not %q and 64 bytes: %v", p, ok)
		}
	}
}

// What may not be fits nothing, not even what has just the name and the value.
func TestFitsOfWrong(t *testing.T) {
	for _, w := range wrongs() {
		ls := append(around(w.m.Value), nil, set(w.m.Name, w.m.Value), set(w.m.Name, "x"), set("a", "x"), set("b", "x"))
		for _, l := range ls {
			if matcher.Fits(w.m, l) || matcher.All(asks(w.m), l) {
				t.Errorf("%s fits %.200q", brief(w.m), l)
			}
		}
	}
	for _, k := range kindParts() {
		for _, l := range [][]api.Label{nil, set("a", "x"), set("a", "y")} {
			if matcher.Fits(ask(k.x, "a", "x"), l) && k.e != api.OK {
				t.Errorf("kind %d fits %q", k.x, l)
			}
		}
	}
}

func TestAll(t *testing.T) {
	x, y, notX := ask(api.Eq, "a", "x"), ask(api.Eq, "b", "y"), ask(api.Ne, "a", "x")
	both, one := set("a", "x", "b", "y"), set("a", "x")
	for _, c := range []struct {
		ms   []api.Matcher
		l    []api.Label
		want bool
	}{
		{nil, nil, true}, {nil, both, true}, {[]api.Matcher{}, nil, true}, {[]api.Matcher{}, one, true}, {nil, set("1", huge), true},
		{asks(x), one, true}, {asks(x), nil, false}, {asks(x, y), both, true}, {asks(y, x), both, true}, {asks(x, y), one, false}, {asks(y, x), one, false}, {asks(x, x), one, true},
		{asks(x, notX), one, false}, {asks(notX, x), one, false}, {asks(notX), nil, true}, {asks(notX, y), set("b", "y"), true},
		{asks(x, ask(5, "a", "x")), one, false}, {asks(ask(5, "a", "x"), x), one, false}, {asks(x, ask(api.Nr, "b", "("), y), both, false}, {asks(x, ask(api.Ne, "1", "")), one, false},
		// More than may be checked together may still be asked.
		{slices.Repeat(asks(x, y), 50), both, true}, {append(slices.Repeat(asks(x, y), 50), notX), both, false}, {append(asks(notX), slices.Repeat(asks(x), 50)...), one, false}, {slices.Repeat(asks(x), 9), one, true},
	} {
		if ok := matcher.All(c.ms, c.l); ok != c.want {
			t.Errorf("%+v, and %q: %v", c.ms, c.l, ok)
		}
	}
	ms := append(some(), ask(api.Eq, "b", "x"), ask(api.Ne, "b", "x"), ask(api.Nr, "b", "("), ask(api.Re, "__name__", "[a-z]"), ask(0, "a", ""))
	for _, l := range sets() {
		fits := map[api.Matcher]int{}
		for _, m := range ms {
			if matcher.Fits(m, l) {
				fits[m] = 1
			}
			if matcher.All(asks(m), l) != (fits[m] == 1) {
				t.Fatalf("%s, and %.70q", brief(m), l)
			}
		}
		for _, m := range ms {
			for _, n := range ms {
				if matcher.All(asks(m, n), l) != (fits[m]+fits[n] == 2) {
					t.Fatalf("%s and %s, and %.70q", brief(m), brief(n), l)
				}
			}
		}
	}
}

// P8.3

func TestCheckAll(t *testing.T) {
	x, notX := ask(api.Eq, "a", "x"), ask(api.Ne, "a", "x")
	for _, c := range []struct {
		ms   []api.Matcher
		want api.Errno
	}{
		{asks(notX), api.ErrArg}, {asks(x), api.OK}, {nil, api.ErrArg}, {[]api.Matcher{}, api.ErrArg},
		// What fits the empty value, and what does not.
		{asks(ask(api.Eq, "a", "")), api.ErrArg}, {asks(ask(api.Ne, "a", "")), api.OK}, {asks(ask(api.Re, "a", "")), api.ErrArg}, {asks(ask(api.Nr, "a", "")), api.OK},
		{asks(ask(api.Re, "a", ".*")), api.ErrArg}, {asks(ask(api.Re, "a", ".+")), api.OK}, {asks(ask(api.Nr, "a", ".*")), api.OK}, {asks(ask(api.Nr, "a", ".+")), api.ErrArg}, {asks(ask(api.Re, "a", "x|")), api.ErrArg}, {asks(ask(api.Re, "a", "x|y")), api.OK}, {asks(ask(api.Nr, "a", "x|y")), api.ErrArg},
		// One that does not fit it is enough, wherever it stands.
		{asks(notX, x), api.OK}, {asks(x, notX), api.OK}, {asks(notX, notX), api.ErrArg}, {asks(notX, ask(api.Eq, "b", ""), ask(api.Re, "c", "y?")), api.ErrArg}, {asks(notX, ask(api.Eq, "b", ""), ask(api.Nr, "c", "y?")), api.OK}, {asks(x, x), api.OK}, {asks(x, ask(api.Eq, "a", "y")), api.OK},
		// As many as labels may be, and one more.
		{slices.Repeat(asks(x), 8), api.OK}, {slices.Repeat(asks(x), 9), api.ErrBig}, {slices.Repeat(asks(notX), 8), api.ErrArg}, {slices.Repeat(asks(notX), 9), api.ErrBig}, {append(slices.Repeat(asks(notX), 7), x), api.OK}, {append(slices.Repeat(asks(notX), 8), x), api.ErrBig}, {make([]api.Matcher, 9), api.ErrBig}, {make([]api.Matcher, 8), api.ErrArg}, {slices.Repeat(asks(ask(api.Re, "1", "(")), 1000), api.ErrBig},
	} {
		if e := matcher.CheckAll(c.ms); e != c.want {
			t.Errorf("%+v: %d, not %d", c.ms, e, c.want)
		}
	}
}

// The first error of one of them is told, ahead of what they fit.
func TestCheckAllErrors(t *testing.T) {
	x, notX := ask(api.Eq, "a", "x"), ask(api.Ne, "a", "x")
	for _, w := range wrongs() {
		for _, ms := range [][]api.Matcher{asks(w.m), asks(x, w.m), asks(w.m, x), asks(notX, w.m), asks(w.m, notX), append(slices.Repeat(asks(x), 7), w.m), append(slices.Repeat(asks(notX), 7), w.m)} {
			if e := matcher.CheckAll(ms); e != w.e {
				t.Errorf("%s in %d: %d, not %d", brief(w.m), len(ms), e, w.e)
			}
		}
		if e := matcher.CheckAll(append(slices.Repeat(asks(x), 8), w.m)); e != api.ErrBig {
			t.Errorf("%s in 9: %d", brief(w.m), e)
		}
		for _, v := range wrongs() {
			if e := matcher.CheckAll(asks(w.m, v.m)); e != w.e {
				t.Errorf("%s ahead of %s: %d, not %d", brief(w.m), brief(v.m), e, w.e)
			}
			if e := matcher.CheckAll(asks(notX, w.m, x, v.m)); e != w.e {
				t.Errorf("%s among others, ahead of %s: %d, not %d", brief(w.m), brief(v.m), e, w.e)
			}
		}
	}
}

func TestCheckAllOfRights(t *testing.T) {
	ms := rights()
	for _, m := range ms {
		for _, n := range ms {
			want := api.OK
			if told(m, "") && told(n, "") {
				want = api.ErrArg
			}
			if e := matcher.CheckAll(asks(m, n)); e != want {
				t.Fatalf("%s and %s: %d, not %d", brief(m), brief(n), e, want)
			}
		}
	}
}

// P8.4

// laid tells a value as it stands between its marks.
func laid(value string) string {
	var b strings.Builder
	for _, c := range []byte(value) {
		switch {
		case c == '"' || c == '\\':
			b.WriteString(`\` + string(rune(c)))
		case c >= ' ' && c <= '~':
			b.WriteByte(c)
		default:
			fmt.Fprintf(&b, `\x%02x`, c)
		}
	}
	return `"` + b.String() + `"`
}

func TestPrint(t *testing.T) {
	for _, c := range []struct {
		m    api.Matcher
		want string
	}{
		{ask(api.Nr, "a", `"`), `a!~"\""`}, {ask(api.Eq, "a", "x"), `a="x"`}, {ask(api.Ne, "a", "x"), `a!="x"`}, {ask(api.Re, "a", "x|y"), `a=~"x|y"`}, {ask(api.Nr, "job", "a.c"), `job!~"a.c"`},
		{ask(api.Eq, "a", ""), `a=""`}, {ask(api.Re, "a", `a\.b`), `a=~"a\\.b"`}, {ask(api.Eq, "__name__", "up"), `__name__="up"`}, {ask(api.Ne, "a", "ü"), `a!="\xc3\xbc"`}, {ask(api.Eq, "a", "\x00\t\n\x1f ~\x7f\x80\xff"), `a="\x00\x09\x0a\x1f ~\x7f\x80\xff"`},
		// Of what may not be, too.
		{api.Matcher{}, `""`}, {ask(0, "a", "x"), `a"x"`}, {ask(5, "a", "x"), `a"x"`}, {ask(-1, "a", ""), `a""`}, {ask(api.Eq, "", ""), `=""`}, {ask(api.Re, "", "("), `=~"("`}, {ask(api.Ne, "1-\"\\\x00", "x"), "1-\"\\\x00!=\"x\""}, {ask(api.Eq, "{=", "}"), `{=="}"`}, {ask(9, "{=", "{=}}"), `{="{=}}"`},
		// What stands in a set's text is a value like any other one.
		{ask(api.Eq, "a", "}"), `a="}"`}, {ask(api.Eq, "a", "{="), `a="{="`}, {ask(api.Eq, "a", `"}`), `a="\"}"`}, {ask(api.Eq, "a", `{="b"}`), `a="{=\"b\"}"`}, {ask(api.Eq, "a", ", "), `a=", "`}, {ask(api.Re, huge, huge), huge + `=~"` + huge + `"`},
	} {
		if s := matcher.Print(c.m); s != c.want {
			t.Errorf("%s: %.200s, not %.200s", brief(c.m), s, c.want)
		}
	}
}

func TestPrintEach(t *testing.T) {
	signs := map[int]string{api.Eq: "=", api.Ne: "!=", api.Re: "=~", api.Nr: "!~"}
	texts := append(longFrom(0, 2*api.MaxWord), everyByte(), `\x41`, `"}`, "{=")
	for i := range 256 {
		texts = append(texts, string([]byte{byte(i)}))
	}
	for _, k := range kindParts() {
		for _, n := range []string{"a", "__name__", "", "1", "{", `"`, "\x00", "ü"} {
			for _, v := range texts {
				m := ask(k.x, n, v)
				if s := matcher.Print(m); s != n+signs[k.x]+laid(v) {
					t.Fatalf("%s: %.200s", brief(m), s)
				}
			}
		}
	}
}

// P8.5

func TestOpposites(t *testing.T) {
	texts := values()
	for p := range patterns() {
		texts = append(texts, p)
	}
	texts = append(texts, "(", "a**", "[]", "(((((((((a)))))))))")
	for _, v := range texts {
		for _, name := range []string{"a", "b", "__name__", "zz"} {
			for _, kind := range []int{api.Eq, api.Re} {
				m, turned := ask(kind, name, v), ask(kind+1, name, v)
				e := matcher.Check(m)
				if matcher.Check(turned) != e {
					t.Fatalf("%s: %d, and the opposite %d", brief(m), e, matcher.Check(turned))
				}
				for _, l := range sets() {
					one, other := matcher.Fits(m, l), matcher.Fits(turned, l)
					if e == api.OK && one == other || e != api.OK && (one || other) {
						t.Fatalf("%s, and %.70q: %v, and the opposite %v", brief(m), l, one, other)
					}
				}
			}
		}
	}
}

// P8.6

func TestPlainPatterns(t *testing.T) {
	texts := append(values(), `\()[]|*+?.`, `\[]^-`, "(a|b)*", "[^a-z]+", `a\.b`, "a.*", strings.Repeat(".", 32), strings.Repeat("a.", 21), strings.Repeat(".", 33), strings.Repeat(`\`, 64))
	for i := range 256 {
		texts = append(texts, string([]byte{byte(i)}), "a"+string([]byte{byte(i)}))
	}
	asked := 0
	for _, text := range texts {
		pattern, plain := ask(api.Re, "a", regex.Quote(text)), ask(api.Eq, "a", text)
		right := len(regex.Quote(text)) <= api.MaxWord
		if ok := matcher.Check(pattern) == api.OK; ok != right {
			t.Fatalf("%s: %v", brief(pattern), ok)
		}
		if !right {
			if matcher.Fits(pattern, set("a", text)) {
				t.Fatalf("%s fits", brief(pattern))
			}
			continue
		}
		for _, v := range texts {
			want := v == text
			if matcher.Fits(pattern, set("a", v)) != want || matcher.Fits(plain, set("a", v)) != want {
				t.Fatalf("%.70q and %.70q: not %v", text, v, want)
			}
			asked++
		}
		if matcher.Fits(pattern, nil) != (text == "") || matcher.Fits(plain, nil) != (text == "") {
			t.Fatalf("%q and no labels", text)
		}
	}
	if asked < 200000 {
		t.Errorf("only %d are asked", asked)
	}
}

// P8.7

func TestMore(t *testing.T) {
	x, notX, every := ask(api.Eq, "a", "x"), ask(api.Ne, "a", "x"), ask(api.Re, "a", ".*")
	lists := [][]api.Matcher{
		nil, asks(x), asks(notX), asks(every), asks(x, every), asks(x, notX), asks(notX, ask(api.Nr, "b", "y+")), asks(ask(5, "a", "x")), asks(every, ask(api.Re, "b", "(")), slices.Repeat(asks(every), 8), slices.Repeat(asks(every), 20),
	}
	more := append(some(), ask(api.Eq, "b", "x"), ask(api.Ne, "b", "x"), ask(api.Re, "zz", ""), ask(api.Ne, "zz", "x"), ask(api.Nr, "__name__", "a"))
	for _, w := range wrongs() {
		more = append(more, w.m)
	}
	kept := 0
	for _, ms := range lists {
		for _, l := range sets() {
			before := matcher.All(ms, l)
			for _, m := range more {
				for _, at := range []int{0, len(ms) / 2, len(ms)} {
					after := matcher.All(slices.Insert(slices.Clone(ms), at, m), l)
					if after && !before || after != (before && matcher.Fits(m, l)) {
						t.Fatalf("%s at %d: %v, then %v", brief(m), at, before, after)
					}
					if after {
						kept++
					}
				}
			}
		}
	}
	if kept < 10000 {
		t.Errorf("only %d still fit", kept)
	}
}

// The rules that hold everywhere: what is handed in is not changed, no call
// panics, and none hangs on the calls ahead.

func TestNothingIsChanged(t *testing.T) {
	room := []api.Matcher{ask(api.Ne, "b", "x"), ask(api.Re, "a", "x|y"), ask(api.Eq, "a", "y"), ask(9, "#", "#")}
	labels := set("b", "1", "a", "y", "a", "2", "#", "#")
	back, labelsBack := slices.Clone(room), slices.Clone(labels)
	for size := range len(room) + 1 {
		for end := range len(labels) + 1 {
			matcher.CheckAll(room[:size])
			matcher.All(room[:size], labels[:end])
			for _, m := range room[:size] {
				matcher.Fits(m, labels[:end])
			}
			if !slices.Equal(room, back) || !slices.Equal(labels, labelsBack) {
				t.Fatalf("%+v and %q", room, labels)
			}
		}
	}
}

// A dice throws numbers, the same ones in each run.
type dice uint64

func (d *dice) throw(n int) int {
	*d = *d*6364136223846793005 + 1442695040888963407
	return int(*d >> 33 % dice(n))
}

// text throws a text of so many bytes at most.
func (d *dice) text(most int) string {
	b := make([]byte, d.throw(most+1))
	for i := range b {
		b[i] = "ab_9|.*+?()[]^-\\\"\x00\xff"[d.throw(19)]
	}
	return string(b)
}

// matcher throws a matcher, perhaps a right one.
func (d *dice) matcher() api.Matcher {
	return ask(d.throw(6), []string{"a", "b", d.text(3)}[d.throw(3)], d.text([]int{2, 4, 70}[d.throw(3)]))
}

func TestAnyMatchers(t *testing.T) {
	d := dice(5)
	for range 20000 {
		var ms []api.Matcher
		var l []api.Label
		for range d.throw(4) {
			ms = append(ms, d.matcher())
		}
		for range d.throw(4) {
			l = append(l, api.Label{Name: []string{"a", "b", d.text(3)}[d.throw(3)], Value: d.text([]int{2, 4, 70}[d.throw(3)])})
		}
		all, e := true, api.OK
		for _, m := range ms {
			c := matcher.Check(m)
			if e == api.OK {
				e = c
			}
			ok := matcher.Fits(m, l)
			if ok && c != api.OK || ok != matcher.Fits(m, l) {
				t.Fatalf("%s, %d, and %q: %v", brief(m), c, l, ok)
			}
			all = all && ok
		}
		if e == api.OK && matcher.All(ms, nil) {
			e = api.ErrArg
		}
		if matcher.All(ms, l) != all || matcher.CheckAll(ms) != e {
			t.Fatalf("%+v, and %q: not %v, %d", ms, l, all, e)
		}
	}
}
