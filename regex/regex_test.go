package regex_test

import (
	"fmt"
	"regexp"
	"strings"
	"testing"
	"time"

	"gauge/api"
	"gauge/regex"
)

// notPlain are the bytes that do not stand for themselves.
const notPlain = `\()[]|*+?.`

// notItems are the bytes that no item of a class has.
const notItems = `\[]^-`

// everyByte are the texts of one byte.
func everyByte() []string {
	var ss []string
	for i := range 256 {
		ss = append(ss, string([]byte{byte(i)}))
	}
	return ss
}

// upTo are all texts of so many pieces at most, in which the pieces stand.
func upTo(n int, pieces ...string) []string {
	ss := []string{""}
	for last := ss; n > 0; n-- {
		var longer []string
		for _, s := range last {
			for _, p := range pieces {
				longer = append(longer, s+p)
			}
		}
		ss, last = append(ss, longer...), longer
	}
	return ss
}

// The tests' own ways of reading a pattern, apart from the package's.

// runes tells a text that has a rune for each byte.
func runes(s string) string {
	var b strings.Builder
	for i := range len(s) {
		b.WriteRune(rune(s[i]))
	}
	return b.String()
}

var (
	wholeAtom  = regexp.MustCompile(`(?s)\\[\\()\[\]|*+?.]|\[\^?(?:[^\\\[\]^-]-[^\\\[\]^-]|[^\\\[\]^-])+\]|[^\\()\[\]|*+?]`)
	twoOfClass = regexp.MustCompile(`(?s)[^\\\[\]^-]-[^\\\[\]^-]`)
	closed     = regexp.MustCompile(`\((?:@[*+?]?|\|)*\)`)
	flat       = regexp.MustCompile(`^(?:@[*+?]?|\|)*$`)
)

// judged tells what Check should: atoms become marks, and then, one depth at a
// time, groups do.
func judged(p string) api.Errno {
	if len(p) > api.MaxRegex {
		return api.ErrBig
	}
	falls := false
	s := wholeAtom.ReplaceAllStringFunc(runes(p), func(atom string) string {
		if len(atom) > 2 && atom[0] == '[' {
			for _, two := range twoOfClass.FindAllString(atom, -1) {
				r := []rune(two)
				falls = falls || r[0] > r[2]
			}
		}
		return "@"
	})
	depth := 0
	for closed.MatchString(s) {
		s = closed.ReplaceAllString(s, "@")
		depth++
	}
	switch {
	case falls || !flat.MatchString(s):
		return api.ErrSyntax
	case depth > 8:
		return api.ErrDeep
	}
	return api.OK
}

// asRune tells a byte as a rune of the library's patterns.
func asRune(c byte) string {
	return fmt.Sprintf(`\x{%x}`, c)
}

// compiled tells a pattern as one of the library.
func compiled(p string) *regexp.Regexp {
	var b strings.Builder
	for i := 0; i < len(p); i++ {
		switch c := p[i]; c {
		case '\\':
			i++
			b.WriteString(asRune(p[i]))
		case '(':
			b.WriteString("(?:")
		case '[':
			end := i + strings.IndexByte(p[i:], ']')
			class := p[i+1 : end]
			i = end
			b.WriteString("[")
			if class[0] == '^' {
				class = class[1:]
				b.WriteString("^")
			}
			for j := range len(class) {
				if class[j] == '-' {
					b.WriteString("-")
				} else {
					b.WriteString(asRune(class[j]))
				}
			}
			b.WriteString("]")
		case ')', '|', '*', '+', '?', '.':
			b.WriteByte(c)
		default:
			b.WriteString(asRune(c))
		}
	}
	return regexp.MustCompile(`(?s)\A(?:` + b.String() + `)\z`)
}

// fit tells whether a pattern fits a text, and stops the test at an error.
func fit(t *testing.T, p, s string) bool {
	t.Helper()
	ok, e := regex.Fits(p, s)
	if e != api.OK {
		t.Fatalf("%q and %q: error %d", p, s, e)
	}
	return ok
}

// A dice throws numbers, the same ones in each run.
type dice uint64

func (d *dice) throw(n int) int {
	*d = *d*6364136223846793005 + 1442695040888963407
	return int(*d >> 33 % dice(n))
}

// one throws one of some texts.
func (d *dice) one(some ...string) string {
	return some[d.throw(len(some))]
}

// item throws an item of a class.
func (d *dice) item() string {
	return d.one("a", "b", "c", "\x80", ".", "a-b", "b-c", "a-a", "\x00-a", "b-\xff", "c-c")
}

// sign throws a byte that is not plain, or that no item has.
func (d *dice) sign() string {
	return d.one(strings.Split(notPlain+notItems, "")...)
}

// pattern throws a pattern of some depth.
func (d *dice) pattern(depth int) string {
	p := ""
	for {
		for range d.throw(4) {
			switch d.throw(8) {
			case 0:
				p += "."
			case 1:
				p += `\` + d.one(strings.Split(notPlain, "")...)
			case 2:
				p += "[" + d.one("", "^") + d.item() + d.one("", d.item()) + "]"
			case 3, 4:
				if depth > 0 {
					p += "(" + d.pattern(depth-1) + ")"
					break
				}
				fallthrough
			default:
				p += d.one("a", "b", "c", "^")
			}
			p += d.one("", "", "*", "+", "?")
		}
		if d.throw(3) > 0 {
			return p
		}
		p += "|"
	}
}

// patterns throws so many patterns that are not too long.
func patterns(n int) []string {
	d := dice(7)
	var ps []string
	for len(ps) < n {
		if p := d.pattern(d.throw(12)); len(p) <= api.MaxRegex {
			ps = append(ps, p)
		}
	}
	return ps
}

// groups tells a pattern within so many groups.
func groups(n int, p string) string {
	return strings.Repeat("(", n) + p + strings.Repeat(")", n)
}

// P7.1

func TestCheck(t *testing.T) {
	for e, ps := range map[api.Errno][]string{
		api.OK: {
			"", "a", "a.c", "(ab|c)*", "[a-c]+x?", "[^a]", "a-", "-", "^", "$", "^a$", "{", "}", "a{2}", "~", " ", "\x00", "\x00*", "\xff", "ü", `"`, "/", ",", "=",
			"|", "||", "a|", "|a", "a||b", "()", "(|)", "()*", "()+", "()?", "(())", "()()", "(a*)*", "(a+)+", "(a?)?", "(|a)+", "a*b*", "a|b*", "a*|b+", ".*", ".+", ".?",
			`\\`, `\(`, `\)`, `\[`, `\]`, `\|`, `\*`, `\+`, `\?`, `\.`, `\**`, `\\*`, `\\\\`, `a\.b`, `(\()`, `(\))`,
			"[a]", "[^a]", "[ab]", "[a-b]", "[a-a]", "[^a-b]", "[a-bc-d]", "[ca-b]", "[a-bc]", "[aa]", "[a]*", "[a]+", "[a]?", "[a][b]", "([a])", "[a]|[b]",
			"[.]", "[*]", "[+]", "[?]", "[(]", "[)]", "[|]", "[()]", "[(|)*+?.]", "[$]", "[\x00]", "[\xff]", "[\x00-\xff]", "[^\x00-\xff]", "[ -~]", "[!-/]", "[+-.]", "[(-+]", "[Z-a]",
			groups(8, ""), groups(8, "a"), groups(8, "a") + groups(8, "b"), strings.Repeat("()", 32), groups(8, "[(]"), groups(8, `\(`), strings.Repeat("[(]", 21), strings.Repeat(`\(`, 32),
			"(((((((())()))))))", strings.Repeat("a", 64), strings.Repeat("|", 64), strings.Repeat("a*", 32), strings.Repeat("\x00", 64), strings.Repeat(`\\`, 32),
		},
		api.ErrSyntax: {
			"a**", "(a", "[]", "[b-a]", "*", "+", "?", "*a", "|*", "a|*", "a|+", "(*)", "(?a)", "(?:a)", "(+", "()**", "a*+", "a*?", "a+*", "a++", "a+?", "a?*", "a?+", "a??", "[a]**", ".**", `\.**`, "(a)*?",
			"(", ")", "((", "))", ")(", "()(", "())", "(()", "a)", "(a))", "((a)", "(a|", "(|", "|)", "a|b)", "(*", ")*",
			`\`, `a\`, `(\`, `(\)`, `\\\`, `\a`, `\n`, `\d`, `\-`, `\^`, `\$`, `\ `, `\0`, `\/`, `\"`, `\{`, "\\\x00", "\\\xff", `\a*`, `[a]\`,
			"[", "]", "a]", "[[", "[]]", "]]", "][", "[a", "[a-", "[a-b", "[^", "[^a", "[^]", "[^^]", "[^-]", "[^]]", "[^^a]", "[a^]", "[^a^]", "[^]a]", "[]a]", "[a]]", "[[a]", "[[a]]", "[a[]",
			"[-]", "[-a]", "[a-]", "[--]", "[a--]", "[--a]", "[a-b-c]", "[a-b-]", "[-a-b]", "[a--b]", "[a-^]", "[^-a]", "[^a-]", "[a-]b]", "[a-[]", `[\]`, `[\]]`, `[\\]`, `[\.]`, `[a\]`, `[a-\]`, `[\-a]`, `[a\-b]`, `[[]`,
			"[b-a]x", "[ab-a]", "[a-cb-a]", "[^b-a]", "[\xff-\x00]", "[\xff-a]", "[\x80-\x7f]", "[a-Z]", "[1-0]", "[b-a", "([b-a])", "a|[b-a]",
			// What is no pattern is told ahead of what is too deep.
			groups(9, "a") + ")", "(" + groups(9, "a"), groups(9, "*"), groups(9, "[]"), groups(9, "a") + "**", strings.Repeat("(", 64), strings.Repeat(")", 64), strings.Repeat("[", 64), strings.Repeat(`\`, 63), strings.Repeat("*", 64),
			strings.Repeat("a", 63) + "(",
		},
		api.ErrDeep: {
			groups(9, ""), groups(9, "a"), groups(10, "a"), groups(32, ""), groups(31, "ab"), groups(9, "a*|b"), "a" + groups(9, "a") + "b", "a|" + groups(9, "a"), groups(8, "a(b)*c"), groups(8, "") + groups(9, ""), groups(7, "()(())"),
		},
		api.ErrBig: {
			strings.Repeat("a", 65), strings.Repeat("(", 65), strings.Repeat("*", 65), groups(33, ""), strings.Repeat("[", 65), strings.Repeat(`\\`, 33), strings.Repeat("\x00", 65), strings.Repeat("(", 1<<20), strings.Repeat("ü", 33),
		},
	} {
		for _, p := range ps {
			if got := regex.Check(p); got != e {
				t.Errorf("%.80q: %d, not %d", p, got, e)
			}
			if judged(p) != e {
				t.Errorf("%.80q is judged as %d, not %d", p, judged(p), e)
			}
		}
	}
}

func TestCheckEveryByte(t *testing.T) {
	for _, c := range everyByte() {
		for p, right := range map[string]bool{
			c + "a":            !strings.Contains(`\()[]*+?`, c),
			`\` + c:            strings.Contains(notPlain, c),
			"[" + c + "]":      !strings.Contains(notItems, c),
			"[^" + c + "]":     !strings.Contains(notItems, c),
			"[a" + c + "]":     !strings.Contains(notItems, c),
			"[" + c + "-" + c:  false,
			"[" + c + "-\xff]": !strings.Contains(notItems, c),
			"[\x00-" + c + "]": !strings.Contains(notItems, c),
			"[" + c + "-m]":    !strings.Contains(notItems, c) && c <= "m",
			"[^m-" + c + "]":   !strings.Contains(notItems, c) && c >= "m",
			"a" + c + "*":      !strings.Contains(`()[]|*+?`, c),
			"(" + c + ")":      !strings.Contains(`\()[]*+?`, c),
			"(a" + c:           c == ")",
			"[a" + c:           c == "]",
		} {
			want := api.ErrSyntax
			if right {
				want = api.OK
			}
			if e := regex.Check(p); e != want {
				t.Errorf("%q: %d, not %d", p, e, want)
			}
		}
	}
}

// All short texts are judged as the document judges them.
func TestCheckShort(t *testing.T) {
	ps := upTo(4, "a", "b", "-", "^", "$", `\`, "(", ")", "[", "]", "|", "*", "+", "?", ".")
	ps = append(ps, upTo(5, "a", "-", "^", `\`, "(", ")", "[", "]", "*")...)
	right := 0
	for _, p := range ps {
		e := regex.Check(p)
		if want := judged(p); e != want {
			t.Fatalf("%q: %d, not %d", p, e, want)
		}
		if e == api.OK {
			right++
		}
	}
	if right < 1000 {
		t.Errorf("only %d of %d are patterns", right, len(ps))
	}
}

// Patterns are taken, and what they are when they were turned is judged anew.
func TestCheckTurned(t *testing.T) {
	d := dice(3)
	for _, p := range patterns(3000) {
		if e := regex.Check(p); e != judged(p) || e != api.OK && e != api.ErrDeep {
			t.Fatalf("%q: %d", p, e)
		}
		at := d.throw(len(p) + 1)
		for _, q := range []string{p[:at], p[at:], p[:at] + d.sign() + p[at:], p[:at] + d.sign() + p[min(at+1, len(p)):]} {
			if e := regex.Check(q); e != judged(q) {
				t.Fatalf("%q: %d, not %d", q, e, judged(q))
			}
		}
	}
}

// P7.2

func TestFits(t *testing.T) {
	for _, c := range []struct {
		p   string
		yes []string
		no  []string
	}{
		{"", []string{""}, []string{"a", " ", "\x00"}},
		{"a", []string{"a"}, []string{"", "A", "aa", "ab", "ba", "b", "a\x00"}},
		{"a.c", []string{"abc", "a.c", "aac", "a\x00c", "a\nc", "a\xffc"}, []string{"", "ac", "abbc", "abcd", "xabc", "abd"}},
		{"(ab|c)*", []string{"", "ab", "c", "abcab", "cc", "abab", "cab"}, []string{"a", "b", "abca", "acb", "ba", "abcabx"}},
		{"[a-c]+x?", []string{"bca", "a", "bcax", "cx"}, []string{"", "x", "d", "ax ", "axx", "axa", "bcd"}},
		{"[^a]", []string{"b", "\x00", "\xff", "^", "\n"}, []string{"", "a", "bb", "ba", "ab"}},
		{"[^a-cx]", []string{"d", "w", "y", "-"}, []string{"a", "b", "c", "x", ""}},
		{"[a-cx]*", []string{"", "abcx", "xxx"}, []string{"-", "a-c", "abcd", "w"}},
		{"[.*(|)+?$]", []string{".", "*", "(", "|", ")", "+", "?", "$"}, []string{"", "a", "()", "\\"}},
		{"a|bc|", []string{"a", "bc", ""}, []string{"b", "c", "abc", "abcb", "a|bc"}},
		{"ab|cd", []string{"ab", "cd"}, []string{"abd", "acd", "abcd", "a", "d"}},
		{"a(b|c)d", []string{"abd", "acd"}, []string{"ad", "abcd", "ab", "cd"}},
		{"ab*", []string{"a", "ab", "abbb"}, []string{"", "abab", "b", "aab"}},
		{"(ab)*", []string{"", "ab", "abab"}, []string{"a", "aab", "abb", "aba"}},
		{"ab+", []string{"ab", "abb"}, []string{"a", "", "abab"}},
		{"ab?c", []string{"ac", "abc"}, []string{"abbc", "a", "c", "bc"}},
		{"a*a", []string{"a", "aa", "aaaa"}, []string{"", "b", "aab"}},
		{"a?a?aa", []string{"aa", "aaa", "aaaa"}, []string{"", "a", "aaaaa"}},
		{"(a*)*", []string{"", "a", "aaa"}, []string{"b", "aab"}},
		{"(a|b*)+c", []string{"c", "ac", "bbabc"}, []string{"", "ab", "cc", "acb"}},
		{"()", []string{""}, []string{"a", "()"}},
		{"()*", []string{""}, []string{"a"}},
		{"()+a", []string{"a"}, []string{"", "aa"}},
		{"(|a)+b", []string{"b", "ab", "aab"}, []string{"", "a", "ba"}},
		{`\..\\`, []string{`.x\`, `..\`}, []string{`xx\`, `.x\\`, `\.x\`}},
		{`\[a\]*`, []string{"[a", "[a]", "[a]]]"}, []string{"a", "[", `\[a`}},
		{"^a$", []string{"^a$"}, []string{"a", "^a", "a$"}},
		{"a{2}", []string{"a{2}"}, []string{"aa", "a"}},
		{"a-c", []string{"a-c"}, []string{"b", "a", "c", "abc"}},
		{".", []string{"a", "\x00", "\n", "\x80", "\xff"}, []string{"", "ü", "ab"}},
		{"..", []string{"ü", "ab"}, []string{"a", "abc", "€"}},
		{"ü?", []string{"\xc3", "ü"}, []string{"", "\xbc"}},
		{"(.*a|.*b)(c|d)?", []string{"a", "b", "ac", "xxbd", "abab"}, []string{"", "c", "acd", "acc", "abx"}},
		{groups(8, "a*"), []string{"", "a", "aaaa"}, []string{"b", "ab"}},
	} {
		for _, s := range c.yes {
			if !fit(t, c.p, s) {
				t.Errorf("%q does not fit %q", c.p, s)
			}
		}
		for _, s := range c.no {
			if fit(t, c.p, s) {
				t.Errorf("%q fits %q", c.p, s)
			}
		}
	}
}

func TestFitsErrors(t *testing.T) {
	long, longest := strings.Repeat("a", 65), strings.Repeat("a", 64)
	for _, c := range []struct {
		p, s string
		ok   bool
		e    api.Errno
	}{
		{"a*", longest, true, api.OK}, {"a*", long, false, api.ErrBig}, {".*", strings.Repeat("\x00", 65), false, api.ErrBig}, {"", long, false, api.ErrBig}, {"b", strings.Repeat(long, 1000), false, api.ErrBig},
		{longest, longest, true, api.OK}, {longest, longest[1:], false, api.OK}, {long, "a", false, api.ErrBig}, {long, long, false, api.ErrBig}, {long, "", false, api.ErrBig},
		// The pattern's error is ahead of the text's.
		{"(", "a", false, api.ErrSyntax}, {"(", "", false, api.ErrSyntax}, {"(", long, false, api.ErrSyntax}, {"a|*", "a", false, api.ErrSyntax}, {"a**", "a", false, api.ErrSyntax}, {"[b-a]|a", "a", false, api.ErrSyntax},
		{groups(9, "a"), "a", false, api.ErrDeep}, {groups(9, "a"), long, false, api.ErrDeep}, {groups(9, ""), "", false, api.ErrDeep}, {groups(8, "a"), "a", true, api.OK},
		{strings.Repeat("(", 65), long, false, api.ErrBig},
	} {
		if ok, e := regex.Fits(c.p, c.s); ok != c.ok || e != c.e {
			t.Errorf("%q and %d bytes: %v %d", c.p, len(c.s), ok, e)
		}
	}
	for _, p := range upTo(3, "a", "-", "^", `\`, "(", ")", "[", "]", "|", "*", ".") {
		for _, s := range []string{"", "a", "aa", long} {
			ok, e := regex.Fits(p, s)
			want := regex.Check(p)
			if want == api.OK && s == long {
				want = api.ErrBig
			}
			if e != want || ok && e != api.OK {
				t.Fatalf("%q and %d bytes: %v %d, not %d", p, len(s), ok, e, want)
			}
		}
	}
}

func TestFitsEveryByte(t *testing.T) {
	classes := map[string]func(c byte) bool{
		".":                func(c byte) bool { return true },
		"[\x00-\xff]":      func(c byte) bool { return true },
		"[^\x00-\xff]":     func(c byte) bool { return false },
		"[a-c]":            func(c byte) bool { return c >= 'a' && c <= 'c' },
		"[^a-c]":           func(c byte) bool { return c < 'a' || c > 'c' },
		"[a-c0-9_]":        func(c byte) bool { return c >= 'a' && c <= 'c' || c >= '0' && c <= '9' || c == '_' },
		"[^_0-9a-c]":       func(c byte) bool { return !(c >= 'a' && c <= 'c' || c >= '0' && c <= '9' || c == '_') },
		"[a-a]":            func(c byte) bool { return c == 'a' },
		"[a-cb-dz]":        func(c byte) bool { return c >= 'a' && c <= 'd' || c == 'z' },
		"[\x00-\x1f\x7f]":  func(c byte) bool { return c < 32 || c == 127 },
		"[\x80-\xff]":      func(c byte) bool { return c >= 128 },
		"[^\x80-\xff\x00]": func(c byte) bool { return c > 0 && c < 128 },
		"[Z-a]":            func(c byte) bool { return c >= 'Z' && c <= 'a' },
		"[+-.]":            func(c byte) bool { return c >= '+' && c <= '.' },
	}
	for i, c := range everyByte() {
		for p, has := range classes {
			if fit(t, p, c) != has(byte(i)) {
				t.Errorf("%q and %q: %v", p, c, !has(byte(i)))
			}
		}
		own := map[string]bool{`\` + c: strings.Contains(notPlain, c), c: !strings.Contains(notPlain, c), "[" + c + "]": !strings.Contains(notItems, c)}
		for p, right := range own {
			for j, s := range everyByte() {
				if right && fit(t, p, s) != (i == j) {
					t.Fatalf("%q and %q: %v", p, s, i != j)
				}
			}
		}
	}
}

// Short patterns, and long ones, fit just what the library's fit.
func TestFitsAlike(t *testing.T) {
	texts := upTo(3, "a", "b", "-")
	for _, p := range upTo(4, "a", "b", "-", `\`, "(", ")", "[", "]", "^", "|", "*", "+", "?", ".") {
		if regex.Check(p) != api.OK {
			continue
		}
		like := compiled(p)
		for _, s := range texts {
			if fit(t, p, s) != like.MatchString(s) {
				t.Fatalf("%q and %q: %v", p, s, !like.MatchString(s))
			}
		}
	}
	texts = append(upTo(4, "a", "b", "c"), upTo(2, "a", "\x00", "\x80", "\xff", "^", ".", "(", `\`)...)
	fits := 0
	for _, p := range patterns(1500) {
		if regex.Check(p) != api.OK {
			continue
		}
		like := compiled(p)
		for _, s := range texts {
			want := like.MatchString(runes(s))
			if fit(t, p, s) != want {
				t.Fatalf("%q and %q: %v", p, s, !want)
			}
			if want {
				fits++
			}
		}
	}
	if fits < 10000 {
		t.Errorf("only %d texts are fitted", fits)
	}
}

// Patterns with many ways through them are done with soon.
func TestFitsEnds(t *testing.T) {
	start := time.Now()
	for _, p := range []string{
		"((((((((a*)*)*)*)*)*)*)*)*b", "((((((((a+)+)+)+)+)+)+)+)+b", "((((((((a?)*)+)*)+)*)+)*)*b", "(a|a|a|a|a|aa|aaa|.)*b", "(a*a*a*a*a*a*a*a*a*a*a*)*b", strings.Repeat("a?", 20) + strings.Repeat("a", 20) + "b",
		"((((((a*b|c)*a|d)*a|e)*a|f)*a|g)*a|h)*z", "(((((.*a|.)*a|.)*a|.)*a|.)*a|.)*z", "((a|(a|(a|(a|(a|(a|(a|)*)*)*)*)*)*)*)*b", "(()*()*()*()*)*((()*)*)*b", ".*.*.*.*.*.*.*.*.*.*.*.*.*.*.*.*.*.*.*.*.*.*.*.*.*.*.*.*.*.*.*b",
	} {
		for _, s := range []string{strings.Repeat("a", 64), strings.Repeat("a", 32) + strings.Repeat("b", 32), strings.Repeat("ab", 32), strings.Repeat("a", 62) + "c"} {
			if want := compiled(p).MatchString(s); fit(t, p, s) != want {
				t.Errorf("%q and %q: not %v", p, s, want)
			}
		}
	}
	if spent := time.Since(start); spent > 20*time.Second {
		t.Errorf("%v", spent)
	}
}

// P7.3

func TestLiteral(t *testing.T) {
	for p, want := range map[string]string{
		"": "", "a": "a", "abc": "abc", `a\.b`: "a.b", `\\`: `\`, `\\\\`: `\\`, `\(\)\[\]\|\*\+\?\.`: "()[]|*+?.", "^a$": "^a$", "a-b": "a-b", "-": "-", "{}": "{}", "\x00\xff": "\x00\xff", "ü": "ü", " ": " ", "\n": "\n",
		`\\n`: `\n`, `\.a`: ".a", `a\*`: "a*", strings.Repeat("a", 64): strings.Repeat("a", 64), strings.Repeat(`\.`, 32): strings.Repeat(".", 32), `"`: `"`,
		// A pattern is one at any length.
		strings.Repeat("a", 65): strings.Repeat("a", 65), strings.Repeat(`\*b`, 9999): strings.Repeat("*b", 9999),
	} {
		if s, ok := regex.Literal(p); s != want || !ok {
			t.Errorf("%.80q: %.80q %v", p, s, ok)
		}
	}
	for _, p := range []string{
		"a.b", ".", "a*", "a+", "a?", `\.*`, `\.+`, `\.?`, "a|b", "|", "a|", "|a", "(a)", "()", "a()", "[a]", "[a-a]", "[^a]", "a(b", "a)", "(", ")", "[", "]", "*", "+", "?", "a]", "[a", "a**", `\`, `a\`, `\\\`, `\a`, `\-`, `\^`, `a\n`, "\\\x00", "\\\xff",
		`a\.b|`, `a\.b.`, `a\.b*`, strings.Repeat("a", 64) + ".", strings.Repeat("(", 9999), strings.Repeat(`\`, 9999), strings.Repeat("a", 9999) + "|", strings.Repeat("(", 1<<24),
	} {
		if s, ok := regex.Literal(p); s != "" || ok {
			t.Errorf("%.80q: %.80q %v", p, s, ok)
		}
	}
}

func TestQuote(t *testing.T) {
	for s, want := range map[string]string{
		"": "", "a": "a", "a.b": `a\.b`, notPlain: `\\\(\)\[\]\|\*\+\?\.`, "^-$": "^-$", "a{2}": "a{2}", `\\`: `\\\\`, "\x00\x80\xff\n": "\x00\x80\xff\n", "ü.": `ü\.`, `a\.b`: `a\\\.b`,
		strings.Repeat(".", 9999): strings.Repeat(`\.`, 9999), strings.Repeat("a", 9999): strings.Repeat("a", 9999), `"/,=`: `"/,=`,
	} {
		if p := regex.Quote(s); p != want {
			t.Errorf("%.80q: %.80q", s, p)
		}
	}
	for _, c := range everyByte() {
		want := c
		if strings.Contains(notPlain, c) {
			want = `\` + c
		}
		if p := regex.Quote(c); p != want {
			t.Errorf("%q: %q", c, p)
		}
		if p := regex.Quote("a" + c + c); p != "a"+want+want {
			t.Errorf("%q twice: %q", c, p)
		}
		if s, ok := regex.Literal(c); ok == strings.Contains(notPlain, c) || ok && s != c || !ok && s != "" {
			t.Errorf("%q is told as %q %v", c, s, ok)
		}
		if s, ok := regex.Literal(`\` + c); ok != strings.Contains(notPlain, c) || ok && s != c || !ok && s != "" {
			t.Errorf("%q behind an escape is told as %q %v", c, s, ok)
		}
	}
}

// Of all short texts Literal tells those alone that are Quote's.
func TestLiteralShort(t *testing.T) {
	told := 0
	for _, p := range upTo(4, "a", "-", "^", `\`, "(", ")", "[", "]", "|", "*", "+", "?", ".") {
		s, ok := regex.Literal(p)
		if !ok && s != "" || ok && regex.Quote(s) != p || ok && regex.Check(p) != api.OK {
			t.Fatalf("%q: %q %v", p, s, ok)
		}
		if q, ok := regex.Literal(regex.Quote(p)); !ok || q != p {
			t.Fatalf("%q: quoted %q, told %q", p, regex.Quote(p), q)
		}
		if ok {
			told++
		}
	}
	// In so many ways 3 plain bytes and 10 pairs fill up to 4 bytes.
	if want := 1 + 3 + (9 + 10) + (27 + 2*30) + (81 + 3*90 + 100); told != want {
		t.Errorf("%d are told, not %d", told, want)
	}
}

// P7.4

func TestQuoted(t *testing.T) {
	texts := append(upTo(3, "a", "^", "-", `\`, "(", "]", "*", "."), everyByte()...)
	texts = append(texts, notPlain, notItems, "(a|b)*", "[^a-z]+", `a\.b`, "localhost:9090", "a.*", "ü€", strings.Repeat("a", 64), strings.Repeat(".", 32), strings.Repeat("a.", 21))
	other := append(upTo(3, "a", "^", "-", `\`, "(", "]", "*", "."), everyByte()...)
	for _, s := range texts {
		p := regex.Quote(s)
		if e := regex.Check(p); e != api.OK {
			t.Fatalf("%q: %d", p, e)
		}
		if !fit(t, p, s) {
			t.Fatalf("%q does not fit %q", p, s)
		}
		if back, ok := regex.Literal(p); back != s || !ok {
			t.Fatalf("%q is told as %q %v", p, back, ok)
		}
		for _, o := range other {
			if o != s && fit(t, p, o) {
				t.Fatalf("%q fits %q", p, o)
			}
		}
		for i := range len(s) {
			for _, o := range []string{s[:i], s[i+1:], s[:i] + s[i+1:], s[:i] + "~" + s[i+1:], s[:i] + string([]byte{s[i] ^ 1}) + s[i+1:], s[:i] + string([]byte{s[i] ^ 128}) + s[i+1:]} {
				if o != s && fit(t, p, o) {
					t.Fatalf("%q fits %q", p, o)
				}
			}
		}
		if len(s) < api.MaxWord && (fit(t, p, s+"a") || fit(t, p, "a"+s) && s != strings.Repeat("a", len(s)) || fit(t, p, s+"\x00")) {
			t.Fatalf("%q fits more", p)
		}
	}
	for s, want := range map[string]api.Errno{strings.Repeat(".", 32): api.OK, strings.Repeat(".", 33): api.ErrBig, strings.Repeat("a", 64): api.OK, strings.Repeat("a", 65): api.ErrBig, strings.Repeat("a", 63) + ".": api.ErrBig} {
		if e := regex.Check(regex.Quote(s)); e != want {
			t.Errorf("%q: %d", s, e)
		}
	}
}

// P7.5

// laid are patterns that the laws are held against.
func laid() []string {
	ps := []string{"", "a", "b", "ab", "a|b", "|a", "ab|", "a*", "a+", "b?", "(ab)*", "(a|b)+", ".", ".*", "[^a]", "[a-b]c", "(a|)(b|)", "a?b+", "(a*b)*", "((a|bc)*c)?", "aa", "a(aa)*", "()", `\.`, "c*b|a+c"}
	for _, p := range patterns(400) {
		if len(p) < 16 && regex.Check("(((("+p+"))))") == api.OK {
			ps = append(ps, p)
		}
	}
	return ps[:min(len(ps), 60)]
}

// sorted tells of each text whether a pattern fits it.
func sorted(t *testing.T, p string, texts []string) map[string]bool {
	fits := map[string]bool{}
	for _, s := range texts {
		fits[s] = fit(t, p, s)
	}
	return fits
}

// cut tells whether a text may be cut in two so that both sides are there, the
// first one of so many bytes at least.
func cut(first, second map[string]bool, s string, least int) bool {
	for i := least; i <= len(s); i++ {
		if first[s[:i]] && second[s[i:]] {
			return true
		}
	}
	return false
}

func TestOrThen(t *testing.T) {
	texts := upTo(4, "a", "b", "c")
	ps := laid()
	for _, a := range ps {
		fa := sorted(t, a, texts)
		for _, b := range ps {
			fb := sorted(t, b, texts)
			for _, s := range texts {
				if or := fa[s] || fb[s]; fit(t, a+"|"+b, s) != or || fit(t, "("+a+"|"+b+")", s) != or {
					t.Fatalf("%q or %q, and %q: not %v", a, b, s, or)
				}
				if then := cut(fa, fb, s, 0); fit(t, "("+a+")("+b+")", s) != then {
					t.Fatalf("%q and then %q, and %q: not %v", a, b, s, then)
				}
			}
		}
	}
}

func TestAgain(t *testing.T) {
	texts := upTo(5, "a", "b", "c")
	for _, a := range laid() {
		once := sorted(t, a, texts)
		many := sorted(t, "("+a+")*", texts)
		for _, s := range texts {
			if want := s == "" || cut(once, many, s, 1); many[s] != want {
				t.Fatalf("%q as often as one likes, and %q: not %v", a, s, want)
			}
			if want := cut(once, many, s, 0); fit(t, "("+a+")+", s) != want || fit(t, "("+a+")("+a+")*", s) != want {
				t.Fatalf("%q once or more, and %q: not %v", a, s, want)
			}
			if want := s == "" || once[s]; fit(t, "("+a+")?", s) != want {
				t.Fatalf("%q once or not, and %q: not %v", a, s, want)
			}
			if fit(t, "(("+a+")*)*", s) != many[s] || fit(t, "(("+a+")+)?", s) != many[s] || fit(t, "(("+a+")?)+", s) != many[s] {
				t.Fatalf("%q again and again, and %q: not %v", a, s, many[s])
			}
		}
	}
}

// The rules that hold everywhere: no call panics, and none hangs on the calls
// ahead.

func TestAnyBytes(t *testing.T) {
	d := dice(11)
	for range 20000 {
		b := make([]byte, d.throw(80))
		for i := range b {
			b[i] = byte(d.throw(256))
			if d.throw(2) == 0 {
				b[i] = d.sign()[0]
			}
		}
		at := d.throw(len(b) + 1)
		p, s := string(b[:at]), string(b[at:])
		ok, e := regex.Fits(p, s)
		again, e2 := regex.Fits(p, s)
		if ok != again || e != e2 || ok && e != api.OK {
			t.Fatalf("%q and %q: %v %d, then %v %d", p, s, ok, e, again, e2)
		}
		if c := regex.Check(p); c != judged(p) {
			t.Fatalf("%q: %d, not %d", p, c, judged(p))
		}
		if text, ok := regex.Literal(regex.Quote(s)); text != s || !ok {
			t.Fatalf("%q: %q", s, text)
		}
		if text, ok := regex.Literal(p); ok && len(p) <= api.MaxRegex && len(text) <= api.MaxWord && !fit(t, p, text) {
			t.Fatalf("%q does not fit %q", p, text)
		}
	}
}
