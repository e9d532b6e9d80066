package label_test

import (
	"bytes"
	"encoding/binary"
	"fmt"
	"math"
	"slices"
	"sort"
	"strings"
	"testing"

	"gauge/api"
	"gauge/label"
)

// set tells labels of names and values, one behind the other.
func set(words ...string) []api.Label {
	var l []api.Label
	for i := 0; i < len(words); i += 2 {
		l = append(l, api.Label{Name: words[i], Value: words[i+1]})
	}
	return l
}

// The tests' own ways of laying a set down, apart from the package's.

// textOf tells the text of labels.
func textOf(l []api.Label) string {
	var parts []string
	for _, x := range l {
		value := ""
		for _, c := range []byte(x.Value) {
			switch {
			case c == '"':
				value += `\"`
			case c == '\\':
				value += `\\`
			case c >= ' ' && c <= '~':
				value += string(rune(c))
			default:
				value += fmt.Sprintf(`\x%02x`, c)
			}
		}
		parts = append(parts, x.Name+`="`+value+`"`)
	}
	return "{" + strings.Join(parts, ", ") + "}"
}

// bytesOf tells the bytes of labels, right or not.
func bytesOf(l []api.Label) []byte {
	b := binary.AppendUvarint(nil, uint64(len(l)))
	for _, x := range l {
		for _, s := range []string{x.Name, x.Value} {
			b = binary.AppendUvarint(b, uint64(len(s)))
			b = append(b, s...)
		}
	}
	return b
}

// everyByte is a text of all bytes.
func everyByte() string {
	b := make([]byte, 256)
	for i := range b {
		b[i] = byte(i)
	}
	return string(b)
}

// longest is a set of as many labels as go, each as long as goes.
func longest(value string) []api.Label {
	var l []api.Label
	for i := range api.MaxLabels {
		l = append(l, api.Label{Name: strings.Repeat("z", api.MaxName-1) + string(rune('a'+i)), Value: value})
	}
	return l
}

// pieces are the bytes of all values, 64 at a time, as sets.
func pieces() [][]api.Label {
	var ls [][]api.Label
	for s := everyByte(); s != ""; s = s[api.MaxWord:] {
		ls = append(ls, set("a", s[:api.MaxWord]), longest(s[:api.MaxWord]))
	}
	return ls
}

// small are all right sets of three names and two values, the empty one among them.
func small() [][]api.Label {
	ls := [][]api.Label{nil}
	for _, name := range []string{"a", "aa", "b"} {
		for _, l := range slices.Clone(ls) {
			for _, value := range []string{"1", "10"} {
				ls = append(ls, append(slices.Clone(l), api.Label{Name: name, Value: value}))
			}
		}
	}
	return ls
}

// rights are right sets: the edges, and ordinary ones.
func rights() [][]api.Label {
	ls := append(small(), pieces()...)
	ls = append(ls,
		set("__name__", "up", "instance", "localhost:9090", "job", "node"),
		set("A", "x", "Z", "x", "_", "x", "a", "x", "a0", "x", "aA", "x", "a_", "x", "z9", "x"),
		set("a", `\`), set("a", `"`), set("a", `\"`), set("a", `"\`), set("a", `\x41`), set("a", `{b="c", d="e"}`),
		set("a", ", "), set("a", `", `), set("a", `="`, "b", `"}`), set("a", "\x00"), set("a", "\xff\x80\x7f ~\x1f"), set("a", "ü€"),
		longest(strings.Repeat("\x00", api.MaxWord)), longest(strings.Repeat(`"`, api.MaxWord)), longest("v"),
	)
	return ls
}

// A wrong is labels that are no right set, and why.
type wrong struct {
	l []api.Label
	e api.Errno
}

// wrongs are such labels, with the orders of errors among them.
func wrongs() []wrong {
	long := strings.Repeat("n", api.MaxName+1)
	big := strings.Repeat("v", api.MaxWord+1)
	nine := append(longest("v"), api.Label{Name: "zzzzzzzzzzzzzzzzzzzzzzzzzzzzzzzz", Value: "v"})
	return []wrong{
		{nine, api.ErrBig}, {make([]api.Label, 9), api.ErrBig}, {make([]api.Label, 400), api.ErrBig},
		{slices.Repeat(set("b", "x", "a", ""), 5), api.ErrBig},
		{make([]api.Label, 8), api.ErrName}, {make([]api.Label, 1), api.ErrName},
		{set("", "x"), api.ErrName}, {set("1", "x"), api.ErrName}, {set(long, "x"), api.ErrName}, {set("a-b", "x"), api.ErrName},
		{set("a:b", "x"), api.ErrName}, {set("ü", "x"), api.ErrName}, {set("a ", "x"), api.ErrName}, {set("a\x00", "x"), api.ErrName},
		{set("a", ""), api.ErrArg}, {set("a", "x", "b", ""), api.ErrArg},
		{set("a", big), api.ErrBig}, {set("a", "x", "b", big+big), api.ErrBig},
		{set("b", "x", "a", "y"), api.ErrOrder}, {set("a", "x", "a", "x"), api.ErrOrder}, {set("a", "x", "a", "y"), api.ErrOrder},
		{set("a", "x", "A", "y"), api.ErrOrder}, {set("a", "x", "_", "y"), api.ErrOrder}, {set("aa", "x", "a", "y"), api.ErrOrder},
		{set("a", "1", "c", "2", "b", "3", "d", "4"), api.ErrOrder},
		// Of one label the name is first, then the value, then the order.
		{set("1", ""), api.ErrName}, {set("1", big), api.ErrName}, {set("b", "x", "1", ""), api.ErrName}, {set("b", "x", "", "y"), api.ErrName},
		{set("b", "x", "a", ""), api.ErrArg}, {set("b", "x", "a", big), api.ErrBig},
		// Of several labels the first one is.
		{set("a", "", "1", "x"), api.ErrArg}, {set("a", big, "1", ""), api.ErrBig}, {set("b", "x", "a", "y", "1", ""), api.ErrOrder},
		{set("a", "x", "a", "y", "b", big), api.ErrOrder}, {set("a", "", "b", big), api.ErrArg}, {set("a", big, "b", ""), api.ErrBig},
	}
}

// anys are labels that may be right or not.
func anys() [][]api.Label {
	ls := rights()
	for _, w := range wrongs() {
		ls = append(ls, w.l)
	}
	return append(ls, set("b", "1", "a", "2", "b", "3", "", "4", "a", ""), set("a", everyByte()+everyByte()))
}

// P6.1

func TestName(t *testing.T) {
	letters := "abcdefghijklmnopqrstuvwxyzABCDEFGHIJKLMNOPQRSTUVWXYZ_"
	for i := range 256 {
		c := string([]byte{byte(i)})
		first := strings.Contains(letters, c)
		later := first || strings.Contains("0123456789", c)
		for s, want := range map[string]bool{
			c: first, c + "a": first, "a" + c: later, "a" + c + "a": later, "_9" + c: later,
			strings.Repeat("a", api.MaxName-1) + c: later, strings.Repeat("a", api.MaxName) + c: false,
		} {
			if label.Name(s) != want {
				t.Errorf("%q: %v", s, !want)
			}
		}
	}
	for s, want := range map[string]bool{
		"": false, "__name__": true, "_": true, "0": false, "0a": false, "a0": true, " a": false, "job": true, "ä": false,
		strings.Repeat("x", 31): true, strings.Repeat("x", 32): true, strings.Repeat("x", 33): false, strings.Repeat("x", 4000): false,
	} {
		if label.Name(s) != want {
			t.Errorf("%q: %v", s, !want)
		}
	}
}

func TestCheck(t *testing.T) {
	for _, l := range rights() {
		if e := label.Check(l); e != api.OK {
			t.Errorf("%q: %d", l, e)
		}
	}
	for _, w := range wrongs() {
		if e := label.Check(w.l); e != w.e {
			t.Errorf("%q: %d, not %d", w.l, e, w.e)
		}
	}
}

func TestCheckExamples(t *testing.T) {
	for _, w := range []wrong{
		{set("b", "x", "a", "y"), api.ErrOrder}, {set("a", ""), api.ErrArg}, {set("1", "x"), api.ErrName},
		{set("a", strings.Repeat("v", 64)), api.OK}, {set("a", strings.Repeat("v", 65)), api.ErrBig},
		{longest("v"), api.OK}, {nil, api.OK}, {[]api.Label{}, api.OK},
	} {
		if e := label.Check(w.l); e != w.e {
			t.Errorf("%q: %d, not %d", w.l, e, w.e)
		}
	}
}

// P6.2

func TestGet(t *testing.T) {
	l := set("b", "1", "a", "2", "b", "3", "", "4", "c", "", "c", "5")
	for name, want := range map[string]string{"a": "2", "b": "1", "": "4", "c": "", "d": "", "A": "", "bb": "", "1": ""} {
		if s := label.Get(l, name); s != want {
			t.Errorf("%q: %q", name, s)
		}
	}
	for _, none := range [][]api.Label{nil, {}} {
		if s := label.Get(none, ""); s != "" {
			t.Errorf("of none: %q", s)
		}
	}
	if s := label.Get(set("a", "1", "__name__", "up"), "__name__"); s != "up" {
		t.Errorf("%q", s)
	}
}

func TestKeepDrop(t *testing.T) {
	l := set("b", "1", "a", "2", "b", "3", "", "4", "c", "")
	for _, c := range []struct {
		names      []string
		kept, rest []api.Label
	}{
		{nil, nil, l}, {[]string{}, nil, l}, {[]string{"d"}, nil, l}, {[]string{"B", "bb", "1", "2"}, nil, l},
		{[]string{"b"}, set("b", "1", "b", "3"), set("a", "2", "", "4", "c", "")},
		{[]string{"a", "b"}, set("b", "1", "a", "2", "b", "3"), set("", "4", "c", "")},
		{[]string{"c", "a"}, set("a", "2", "c", ""), set("b", "1", "b", "3", "", "4")},
		{[]string{"", "", "x"}, set("", "4"), set("b", "1", "a", "2", "b", "3", "c", "")},
		{[]string{"c", "", "a", "b", "b"}, l, nil},
	} {
		if kept := label.Keep(l, c.names); !slices.Equal(kept, c.kept) {
			t.Errorf("%q kept: %q", c.names, kept)
		}
		if rest := label.Drop(l, c.names); !slices.Equal(rest, c.rest) {
			t.Errorf("%q dropped: %q", c.names, rest)
		}
	}
	for _, names := range [][]string{nil, {""}, {"a"}} {
		if len(label.Keep(nil, names)) != 0 || len(label.Drop(nil, names)) != 0 {
			t.Errorf("%q of none", names)
		}
	}
	many := slices.Repeat(l, 100)
	if n, m := len(label.Keep(many, []string{"b"})), len(label.Drop(many, []string{"b"})); n != 200 || m != 300 {
		t.Errorf("%d kept, %d dropped", n, m)
	}
}

// P6.3

// merged tells both sets' labels as a map tells them apart.
func merged(a, b []api.Label) []api.Label {
	by := map[string]api.Label{}
	for _, l := range [][]api.Label{b, a} {
		for _, x := range l {
			by[x.Name] = x
		}
	}
	var all []api.Label
	for _, x := range by {
		all = append(all, x)
	}
	sort.Slice(all, func(i, j int) bool { return all[i].Name < all[j].Name })
	return all
}

func TestMerge(t *testing.T) {
	if l := label.Merge(set("a", "1", "c", "2"), set("a", "3", "b", "4")); !slices.Equal(l, set("a", "1", "b", "4", "c", "2")) {
		t.Errorf("%q", l)
	}
	for _, a := range rights() {
		for _, b := range rights() {
			if l := label.Merge(a, b); !slices.Equal(l, merged(a, b)) {
				t.Errorf("%q and %q: %q", a, b, l)
			}
		}
	}
	upper := longest("u")
	for i := range upper {
		upper[i].Name = strings.ToUpper(upper[i].Name)
	}
	if l := label.Merge(longest("v"), upper); len(l) != 16 || !slices.Equal(l, append(slices.Clone(upper), longest("v")...)) {
		t.Errorf("%q", l)
	}
}

func TestMergeOfOthers(t *testing.T) {
	for _, c := range []struct{ a, b, want []api.Label }{
		{set("b", "1", "a", "2"), nil, set("b", "1", "a", "2")},
		{nil, set("b", "1", "a", "2", "a", "3"), set("b", "1", "a", "2", "a", "3")},
		// What is below the first one of a is ahead of it, else the first one of a is.
		{set("c", "1"), set("b", "2", "b", "3", "a", "4"), set("b", "2", "b", "3", "a", "4", "c", "1")},
		{set("b", "1", "a", "2"), set("a", "3"), set("a", "3", "b", "1", "a", "2")},
		{set("b", "1", "a", "2", "c", "3"), set("aa", "4"), set("aa", "4", "b", "1", "a", "2", "c", "3")},
		{set("a", "1", "a", "2"), set("b", "3"), set("a", "1", "a", "2", "b", "3")},
		{set("b", "1"), set("c", "2", "a", "3"), set("b", "1", "c", "2", "a", "3")},
		// All of b that have the name of one of a that was next are left out.
		{set("a", "1"), set("a", "2", "a", "3", "b", "4"), set("a", "1", "b", "4")},
		{set("a", "1", "a", "2"), set("a", "3", "a", "4"), set("a", "1", "a", "2")},
		{set("b", "1"), set("b", "2", "a", "3", "b", "4"), set("b", "1", "a", "3")},
		{set("b", "1"), set("c", "2", "b", "3", "d", "4"), set("b", "1", "c", "2", "d", "4")},
		{set("b", "1", "d", "2"), set("c", "3", "b", "4", "a", "5", "e", "6"), set("b", "1", "c", "3", "a", "5", "d", "2", "e", "6")},
		{set("b", "1", "a", "2", "c", "3"), set("b", "4", "0", "5"), set("b", "1", "0", "5", "a", "2", "c", "3")},
		{set("", "", "1", ""), set("", "x", "0", ""), set("", "", "0", "", "1", "")},
	} {
		if l := label.Merge(c.a, c.b); !slices.Equal(l, c.want) {
			t.Errorf("%q and %q: %q", c.a, c.b, l)
		}
	}
}

// P6.4

// rising are labels, each behind the ones ahead.
func rising() [][]api.Label {
	return [][]api.Label{
		nil, set("", ""), set("", "z"), set("0", "x"), set("A", "x"), set("_", "x"), set("a", ""), set("a", "X"),
		set("a", "x"), set("a", "x", "B", "y"), set("a", "x", "a", "y"), set("a", "x", "b", ""), set("a", "x", "b", "y"),
		set("a", "x", "b", "y", "c", "z"), set("a", "x", "b", "yy"), set("a", "x", "c", "a"), set("a", "x\x00"), set("a", "xx"),
		set("a", "y"), set("a", "\x7f"), set("a", "\x80"), set("a", "\xff"), set("aa", "a"), set("aa", "a", "a", "a"), set("b", ""), set("b", "a"), set("\xff", "a"),
	}
}

func TestCompare(t *testing.T) {
	if n := label.Compare(set("a", "x"), set("a", "x", "b", "y")); n != -1 {
		t.Error(n)
	}
	if n := label.Compare(nil, []api.Label{}); n != 0 {
		t.Error(n)
	}
	for i, a := range rising() {
		for j, b := range rising() {
			want := 0
			if i < j {
				want = -1
			} else if i > j {
				want = 1
			}
			if n := label.Compare(a, b); n != want {
				t.Errorf("%q and %q: %d", a, b, n)
			}
		}
	}
}

// P6.5

func TestPrint(t *testing.T) {
	for _, c := range []struct {
		l    []api.Label
		want string
	}{
		{set("a", "x", "b", `"\`), `{a="x", b="\"\\"}`}, {nil, "{}"}, {[]api.Label{}, "{}"}, {set("a", ""), `{a=""}`},
		{set("a", "\x00\t\n\x1f ~\x7f\x80\xfe\xff"), `{a="\x00\x09\x0a\x1f ~\x7f\x80\xfe\xff"}`},
		{set("a", "ü"), `{a="\xc3\xbc"}`}, {set("a", `\x41 {},='`), `{a="\\x41 {},='"}`},
		{set("", "", "", ""), `{="", =""}`}, {set("b", "1", "a", "2", "b", "1"), `{b="1", a="2", b="1"}`},
		{set("\"\\\x00\xff", "x"), "{\"\\\x00\xff=\"x\"}"},
	} {
		if s := label.Print(c.l); s != c.want {
			t.Errorf("%q: %s", c.l, s)
		}
	}
	for _, l := range anys() {
		if s := label.Print(l); s != textOf(l) {
			t.Errorf("%q: %s", l, s)
		}
	}
}

func TestParse(t *testing.T) {
	for _, l := range rights() {
		if back, e := label.Parse(textOf(l)); e != api.OK || !slices.Equal(back, l) {
			t.Errorf("%q: %q %d", l, back, e)
		}
	}
	if l, e := label.Parse("{}"); len(l) != 0 || e != api.OK {
		t.Errorf("%q %d", l, e)
	}
}

// syntaxError tells whether a text is told as none.
func syntaxError(s string) bool {
	l, e := label.Parse(s)
	return len(l) == 0 && e == api.ErrSyntax
}

func TestParseWrong(t *testing.T) {
	for _, s := range []string{
		"", "{", "}", "{{}", "{}}", " {}", "{} ", "{ }", "{,}", "{, }", "{}{}", "a", "\x00", "{a}", "{a=}", "{=}", "{=\"x\"}",
		`{a="x",b="y"}`, `{a="x" b="y"}`, `{a="x",  b="y"}`, `{a="x" , b="y"}`, `{a="x", }`, `{a="x",}`, `{, a="x"}`, `{a="x", , b="y"}`,
		`{a="x"b="y"}`, `{a="x"; b="y"}`, `{a ="x"}`, `{a= "x"}`, `{ a="x"}`, `{a="x" }`, `{a='x'}`, `{a=x}`, `{a"x"}`, `{a=="x"}`, `{a="x""}`,
		`a="x"`, `{a="x"`, `a="x"}`, `{a="x`, `{a="`, `{a="x}`, `{a="x"}}`, `{{a="x"}`, `{a="x"}{a="x"}`, `{a="x"}, `, `[a="x"]`, `{a="x"]`,
		`{a="\`, `{a="\"`, `{a="\"}`, `{a="\\`, `{a="\x`, `{a="\x"}`, `{a="\x0`, `{a="\x0"}`, `{a="\x00`, `{a="\x00}`, `{a="\x00, b="y"}`,
		`{a="\x41"}`, `{a="\x22"}`, `{a="\x5c"}`, `{a="\x20"}`, `{a="\x7e"}`, `{a="\X00"}`, `{a="\xFF"}`, `{a="\xfF"}`, `{a="\x0g"}`, `{a="\xgg"}`,
		`{a="\x+1"}`, `{a="\x-1"}`, `{a="\x_1"}`, `{a="\x 1"}`, `{a="\n"}`, `{a="\a"}`, `{a="\'"}`, `{a="\0"}`, `{a="\u0000"}`, `{a="\x000"`,
		"{a=\"\x00\"}", "{a=\"\n\"}", "{a=\"\x1f\"}", "{a=\"\x7f\"}", "{a=\"\x80\"}", "{a=\"ü\"}", "{a=\"\xff\"}",
		strings.Repeat("{", 3000), strings.Repeat(`{a="`, 3000), strings.Repeat(`a="b", `, 3000), strings.Repeat(`\`, 3000), "{a=\"" + strings.Repeat(`\`, 3001),
	} {
		if !syntaxError(s) {
			t.Errorf("%q", s)
		}
	}
	// Print of labels that are no right set is the text of no right set.
	for _, w := range wrongs() {
		if s := textOf(w.l); !syntaxError(s) {
			t.Errorf("%q", s)
		}
	}
}

// Of a text that was turned, cut or made longer Parse tells an error, or the
// set that has just this text.
func TestParseTurned(t *testing.T) {
	check := func(s string) {
		l, e := label.Parse(s)
		if e == api.OK && (label.Check(l) != api.OK || textOf(l) != s) || e != api.OK && (e != api.ErrSyntax || len(l) != 0) {
			t.Fatalf("%q: %q %d", s, l, e)
		}
	}
	put := []string{"", "{", "}", `"`, `\`, "=", ",", " ", "x", "a", "0", "A", "f", "\x00", "\xff", `="`, ", ", `\x00`, `\x41`, `\\`, `\"`}
	for _, l := range [][]api.Label{nil, set("a", "x"), set("a", "x", "b", `"\`), set("a0", "\x00\xff", "b_", "x\\x", "c", "=\", ")} {
		s := textOf(l)
		for i := range len(s) + 1 {
			check(s[:i])
			check(s[i:])
			for j := i; j <= min(i+4, len(s)); j++ {
				for _, p := range put {
					check(s[:i] + p + s[j:])
				}
			}
			if i < len(s) && !syntaxError(s[:i]) {
				t.Errorf("%q is taken", s[:i])
			}
		}
	}
}

// P6.6

func TestPut(t *testing.T) {
	for _, c := range []struct {
		l    []api.Label
		want string
	}{
		{nil, "\x00"}, {set("a", "x"), "\x01\x01a\x01x"}, {set("a", "x", "bc", "\"\\"), "\x02\x01a\x01x\x02bc\x02\"\\"},
		{set("a", strings.Repeat("v", 64)), "\x01\x01a\x40" + strings.Repeat("v", 64)},
	} {
		for _, ahead := range []string{"", "\x00", "ahead", "\xff\xff"} {
			if b, e := label.Put([]byte(ahead), c.l); e != api.OK || string(b) != ahead+c.want {
				t.Errorf("%q behind %q: %q %d", c.l, ahead, b, e)
			}
		}
	}
	for _, l := range rights() {
		if b, e := label.Put([]byte{9}, l); e != api.OK || !bytes.Equal(b[1:], bytesOf(l)) || b[0] != 9 {
			t.Errorf("%q: %q %d", l, b, e)
		}
	}
	for _, w := range wrongs() {
		if b, e := label.Put([]byte("ahead"), w.l); e != w.e || len(b) != 0 {
			t.Errorf("%q: %q %d, not %d", w.l, b, e, w.e)
		}
	}
}

func TestRead(t *testing.T) {
	for _, l := range rights() {
		for _, ahead := range []string{"", "\x00", "ahead"} {
			for _, behind := range []string{"", "\x00", "\x01", "\xff\xff"} {
				b := append([]byte(ahead), bytesOf(l)...)
				end := len(b)
				b = append(b, behind...)
				if back, next, e := label.Read(b, len(ahead)); !slices.Equal(back, l) || next != end || e != api.OK {
					t.Errorf("%q: %q %d %d", l, back, next, e)
				}
			}
		}
	}
}

func TestReadWrong(t *testing.T) {
	long := "\x80\x80\x04" + strings.Repeat("v", 65536)
	for _, c := range []struct {
		b    string
		at   int
		want api.Errno
	}{
		{"", -1, api.ErrArg}, {"", 1, api.ErrArg}, {"\x00", -1, api.ErrArg}, {"\x00", 2, api.ErrArg}, {"\x00", math.MinInt, api.ErrArg}, {"\x00", math.MaxInt, api.ErrArg},
		{"", 0, api.ErrShort}, {"\x00", 1, api.ErrShort}, {"\x80", 0, api.ErrShort}, {"\x01", 0, api.ErrShort}, {"\x01\x01a", 0, api.ErrShort},
		{"\x01\x01a\x02x", 0, api.ErrShort}, {"\x02\x01a\x01x", 0, api.ErrShort}, {"\x02\x01a\x01x\x01b\x01", 0, api.ErrShort}, {"\x01\x7fa\x01x", 0, api.ErrShort},
		{"\x80\x00", 0, api.ErrCorrupt}, {"\x01\x81\x00a\x01x", 0, api.ErrCorrupt}, {"\x01\x01a\x81\x00x", 0, api.ErrCorrupt}, {strings.Repeat("\x80", 9), 0, api.ErrCorrupt},
		// More than MaxLabels are told ahead of all that would follow.
		{"\x09", 0, api.ErrBig}, {"\x7f", 0, api.ErrBig}, {"\x80\x01", 0, api.ErrBig}, {"\xff\xff\xff\xff\xff\xff\xff\xff\x7f", 0, api.ErrBig}, {"\x09\x80\x00", 0, api.ErrBig},
		{string(bytesOf(make([]api.Label, 9))), 0, api.ErrBig}, {"\x08", 0, api.ErrShort},
		{"\x01" + long + "\x01x", 0, api.ErrBig}, {"\x01\x01a" + long, 0, api.ErrBig}, {"\x01\x80\x80\x04", 0, api.ErrBig},
		// What can not be read is told ahead of what is not right.
		{"\x01\x011", 0, api.ErrShort}, {"\x02\x011\x01x", 0, api.ErrShort}, {"\x02\x011\x01x\x81\x00", 0, api.ErrCorrupt}, {"\x02\x01a\x00" + long, 0, api.ErrBig},
		{"\x00\x01\x00\x01x", 1, api.ErrCorrupt}, {"\x01\x01a\x00", 0, api.ErrCorrupt}, {"\x01\x00\x00", 0, api.ErrCorrupt},
	} {
		if l, next, e := label.Read([]byte(c.b), c.at); len(l) != 0 || next != 0 || e != c.want {
			t.Errorf("%.40q from %d: %q %d %d, not %d", c.b, c.at, l, next, e, c.want)
		}
	}
	for _, w := range wrongs() {
		want := api.ErrCorrupt
		if len(w.l) > api.MaxLabels {
			want = api.ErrBig
		}
		if l, next, e := label.Read(bytesOf(w.l), 0); len(l) != 0 || next != 0 || e != want {
			t.Errorf("%q: %q %d %d", w.l, l, next, e)
		}
	}
}

func TestReadCut(t *testing.T) {
	for _, l := range rights() {
		b := bytesOf(l)
		for i := range b {
			if l, next, e := label.Read(b[:i], 0); len(l) != 0 || next != 0 || e != api.ErrShort {
				t.Fatalf("%q: %q %d %d", b[:i], l, next, e)
			}
		}
	}
}

// P6.7

func TestOrder(t *testing.T) {
	ls := append(small(), rising()...)
	for _, a := range ls {
		for _, b := range ls {
			n := label.Compare(a, b)
			if n < -1 || n > 1 || n != -label.Compare(b, a) || (n == 0) != slices.Equal(a, b) {
				t.Fatalf("%q and %q: %d, turned round %d", a, b, n, label.Compare(b, a))
			}
			for _, c := range ls {
				if n <= 0 && label.Compare(b, c) <= 0 && label.Compare(a, c) > 0 {
					t.Fatalf("%q, %q and %q", a, b, c)
				}
			}
		}
	}
}

// P6.8

func TestParts(t *testing.T) {
	for _, l := range rights() {
		var names []string
		for _, x := range l {
			names = append(names, x.Name)
		}
		for pick := range 1 << len(names) {
			some := []string{"nowhere"}
			for i, name := range names {
				if pick>>i&1 == 1 {
					some = append(some, name)
				}
			}
			kept, rest := label.Keep(l, some), label.Drop(l, some)
			if len(kept) != len(some)-1 || len(kept)+len(rest) != len(l) {
				t.Fatalf("%q: %q and %q", some, kept, rest)
			}
			if label.Check(kept) != api.OK || label.Check(rest) != api.OK {
				t.Fatalf("%q: %q and %q are not right", some, kept, rest)
			}
			if !slices.Equal(label.Merge(kept, rest), l) || !slices.Equal(label.Merge(rest, kept), l) {
				t.Fatalf("%q and %q: %q", kept, rest, label.Merge(kept, rest))
			}
		}
	}
}

// P6.9

func TestThereAndBack(t *testing.T) {
	var row []byte
	for _, l := range rights() {
		if back, e := label.Parse(label.Print(l)); e != api.OK || !slices.Equal(back, l) {
			t.Errorf("%q: %q %d", l, back, e)
		}
		longer, e := label.Put(row, l)
		if e != api.OK || !bytes.HasPrefix(longer, row) {
			t.Fatalf("%q: %d", l, e)
		}
		row = longer
	}
	at := 0
	for _, l := range rights() {
		back, next, e := label.Read(row, at)
		if e != api.OK || !slices.Equal(back, l) {
			t.Fatalf("%q at %d: %q %d", l, at, back, e)
		}
		at = next
	}
	if at != len(row) {
		t.Errorf("%d bytes read of %d", at, len(row))
	}
}

// The rules that hold everywhere: what is handed in is not changed, and an
// answer is new memory.

func TestListsShareNothing(t *testing.T) {
	room := set("a", "1", "b", "2", "c", "3", "z", "9")
	other := set("b", "4", "d", "5", "z", "9")
	back, otherBack := slices.Clone(room), slices.Clone(other)
	a, b := room[:3], other[:2]
	for name, call := range map[string]func() []api.Label{
		"Keep":          func() []api.Label { return label.Keep(a, []string{"a", "b", "c"}) },
		"Drop":          func() []api.Label { return label.Drop(a, []string{"x"}) },
		"Merge":         func() []api.Label { return label.Merge(a, b) },
		"Merge of a":    func() []api.Label { return label.Merge(a, nil) },
		"Merge of b":    func() []api.Label { return label.Merge(nil, b) },
		"Merge of both": func() []api.Label { return label.Merge(a, a) },
	} {
		one, two := call(), call()
		want := slices.Clone(one)
		for _, l := range [][]api.Label{two, append(two, set("#", "#")...)} {
			for i := range l {
				l[i] = api.Label{Name: "#", Value: "#"}
			}
		}
		if !slices.Equal(one, want) || !slices.Equal(room, back) || !slices.Equal(other, otherBack) {
			t.Fatalf("%s: %q, of %q and %q", name, one, room, other)
		}
	}
}

func TestNamesStay(t *testing.T) {
	names := []string{"c", "a", "b", "z"}
	l := set("a", "1", "b", "2")
	label.Keep(l, names[:2])
	label.Drop(l, names[:2])
	label.Compare(l, l)
	label.Print(l)
	label.Check(l)
	if !slices.Equal(names, []string{"c", "a", "b", "z"}) || !slices.Equal(l, set("a", "1", "b", "2")) {
		t.Errorf("%q %q", names, l)
	}
}

func TestBytesShareNothing(t *testing.T) {
	back := []byte("0123456789012345678901234567890123456789")
	for _, l := range [][]api.Label{nil, set("a", "x"), set("a", "x", "b", "y")} {
		for _, size := range []int{0, 3} {
			room, labels := bytes.Clone(back), slices.Clone(l)
			b, e := label.Put(room[:size], labels)
			c, _ := label.Put(room[:size], labels)
			if e != api.OK || !bytes.Equal(room, back) || !slices.Equal(labels, l) {
				t.Fatalf("%q: what was handed in is %q, %q", l, room, labels)
			}
			want := bytes.Clone(b)
			copy(room, "##########")
			copy(c, "##########")
			if !bytes.Equal(b, want) {
				t.Fatalf("%q: an answer shares memory", l)
			}
		}
		b := bytesOf(l)
		one, _, _ := label.Read(b, 0)
		two, _, _ := label.Read(b, 0)
		if !bytes.Equal(b, bytesOf(l)) {
			t.Fatalf("%q: what was handed in is changed", l)
		}
		for i := range b {
			b[i] = '#'
		}
		for i := range two {
			two[i].Name = "#"
		}
		if !slices.Equal(one, l) {
			t.Fatalf("%q: what was read shares memory: %q", l, one)
		}
	}
}
