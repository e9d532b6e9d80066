package lex_test

import (
	"fmt"
	"math"
	"math/big"
	"regexp"
	"slices"
	"strings"
	"testing"

	"gauge/api"
	"gauge/lex"
)

// The tests' own way of scanning, apart from the package's: patterns, and
// whole numbers of any size.

var (
	blankForm  = regexp.MustCompile(`^(?:[ \t\n]|#[^\n]*)*`)
	nameForm   = regexp.MustCompile(`^[A-Za-z_:][A-Za-z0-9_:]*`)
	rowForm    = regexp.MustCompile(`^[0-9][0-9A-Za-z_:.]*`)
	numberForm = regexp.MustCompile(`^(0|[1-9][0-9]*)(?:\.([0-9]{0,5}[1-9]))?$`)
	durForm    = regexp.MustCompile(`^(?:([1-9]\d*)w)?(?:([1-9]\d*)d)?(?:([1-9]\d*)h)?(?:([1-9]\d*)m)?(?:([1-9]\d*)s)?(?:([1-9]\d*)ms)?$`)
	textForm   = regexp.MustCompile(`^"(?:[ !#-\[\]-~]|\\["\\]|\\x(?:[01][0-9a-f]|7f|[89a-f][0-9a-f])){0,64}"`)
	markForm   = regexp.MustCompile(`^(?:=~|!~|==|!=|<=|>=|[=<>+*/%(){}\[\],-])`)
)

// whole tells the number of digits.
func whole(digits string) *big.Int {
	n, ok := new(big.Int).SetString(digits, 10)
	if !ok {
		panic(digits)
	}
	return n
}

// durOf tells what Dur is to tell.
func durOf(s string) (int, api.Errno) {
	if s == "0s" {
		return 0, api.OK
	}
	parts := durForm.FindStringSubmatch(s)
	if parts == nil || s == "" {
		return 0, api.ErrSyntax
	}
	sum := new(big.Int)
	for i, length := range []int64{7 * 24 * 3600 * 1000, 24 * 3600 * 1000, 3600 * 1000, 60 * 1000, 1000, 1} {
		if parts[i+1] != "" {
			sum.Add(sum, new(big.Int).Mul(whole(parts[i+1]), big.NewInt(length)))
		}
	}
	if sum.Cmp(big.NewInt(1<<31)) > 0 {
		return 0, api.ErrOver
	}
	return int(sum.Int64()), api.OK
}

// numberOf tells what a number's text is.
func numberOf(s string) (int, api.Errno) {
	parts := numberForm.FindStringSubmatch(s)
	if parts == nil {
		return 0, api.ErrSyntax
	}
	n := whole(parts[1] + parts[2] + strings.Repeat("0", 6-len(parts[2])))
	if n.Cmp(big.NewInt(1<<60)) > 0 {
		return 0, api.ErrOver
	}
	return int(n.Int64()), api.OK
}

// valueOf tells the value of a right text.
func valueOf(laid string) string {
	var b []byte
	for i := 1; i < len(laid)-1; i++ {
		switch {
		case laid[i] != '\\':
			b = append(b, laid[i])
		case laid[i+1] == 'x':
			var c byte
			fmt.Sscanf(laid[i+2:i+4], "%02x", &c)
			b = append(b, c)
			i += 3
		default:
			b = append(b, laid[i+1])
			i++
		}
	}
	return string(b)
}

// scanned tells what Scan is to tell.
func scanned(s string) ([]api.Token, int, api.Errno) {
	if len(s) > 1024 {
		return nil, 0, api.ErrBig
	}
	var l []api.Token
	at := 0
	for {
		at += len(blankForm.FindString(s[at:]))
		rest := s[at:]
		if rest == "" {
			return append(l, api.Token{Kind: api.TEnd, At: at}), 0, api.OK
		}
		laid, x := "", api.Token{At: at}
		e := api.OK
		if laid = nameForm.FindString(rest); laid != "" {
			x.Kind, x.Text = api.TName, laid
		} else if laid = rowForm.FindString(rest); laid != "" {
			x.Kind, x.Text = api.TNumber, laid
			if x.N, e = numberOf(laid); e == api.ErrSyntax {
				x.Kind = api.TDur
				x.N, e = durOf(laid)
			}
		} else if laid = textForm.FindString(rest); laid != "" {
			x.Kind, x.Text = api.TText, valueOf(laid)
		} else if laid = markForm.FindString(rest); laid != "" {
			x.Kind, x.Text = api.TMark, laid
		} else {
			e = api.ErrSyntax
		}
		if e != api.OK {
			return nil, at, e
		}
		l = append(l, x)
		at += len(laid)
	}
}

// brief tells tokens in few bytes, however many they are.
func brief(l []api.Token) string {
	return fmt.Sprintf("%.300s", fmt.Sprint(l))
}

// agrees looks whether Scan tells what the tests' own way tells.
func agrees(t *testing.T, s string) {
	t.Helper()
	want, wantAt, wantE := scanned(s)
	l, at, e := lex.Scan(s)
	if e != wantE || at != wantAt || !slices.Equal(l, want) {
		t.Fatalf("%.300q: %s, %d, %d, not %s, %d, %d", s, brief(l), at, e, brief(want), wantAt, wantE)
	}
}

// one tells the token of a text that has no other one, ahead of the end.
func one(t *testing.T, s string) api.Token {
	t.Helper()
	l, at, e := lex.Scan(s)
	if e != api.OK || at != 0 || len(l) != 2 || l[0].At != 0 || l[1] != (api.Token{Kind: api.TEnd, At: len(s)}) {
		t.Errorf("%.300q: %s, %d, %d", s, brief(l), at, e)
		return api.Token{}
	}
	return l[0]
}

// A bad is a text that is refused at a place.
type bad struct {
	s  string
	at int
	e  api.Errno
}

// refused looks whether Scan refuses texts, and tells nothing else.
func refused(t *testing.T, bads []bad) {
	t.Helper()
	for _, c := range bads {
		if l, at, e := lex.Scan(c.s); len(l) != 0 || at != c.at || e != c.e {
			t.Errorf("%.300q: %s, %d, %d, not %d, %d", c.s, brief(l), at, e, c.at, c.e)
		}
		agrees(t, c.s)
	}
}

// syntax are texts each of which is refused at its front.
func syntax(ss ...string) []bad {
	var bads []bad
	for _, s := range ss {
		bads = append(bads, bad{s, 0, api.ErrSyntax})
	}
	return bads
}

const (
	longestDur = "3w3d20h31m23s648ms"   // 2^31
	greatest   = "1152921504606.846976" // 2^60 parts
)

// P15.1: Scan

func TestScanExamples(t *testing.T) {
	l, at, e := lex.Scan(`a{b="x"}[5m]`)
	want := []api.Token{
		{Kind: api.TName, Text: "a", At: 0}, {Kind: api.TMark, Text: "{", At: 1}, {Kind: api.TName, Text: "b", At: 2},
		{Kind: api.TMark, Text: "=", At: 3}, {Kind: api.TText, Text: "x", At: 4}, {Kind: api.TMark, Text: "}", At: 7},
		{Kind: api.TMark, Text: "[", At: 8}, {Kind: api.TDur, Text: "5m", N: 300000, At: 9}, {Kind: api.TMark, Text: "]", At: 11},
		{Kind: api.TEnd, At: 12},
	}
	if !slices.Equal(l, want) || at != 0 || e != api.OK {
		t.Errorf("%v, %d, %d", l, at, e)
	}
	refused(t, []bad{{"1.50", 0, api.ErrSyntax}, {"a $", 2, api.ErrSyntax}, {"2x", 0, api.ErrSyntax}})
}

func TestScanQueries(t *testing.T) {
	for s, want := range map[string]string{
		"":                          "",
		" \t\n # no":                "",
		"a":                         "name a",
		"1 +":                       "number 1 / mark +",
		"a ==":                      "name a / mark ==",
		"f(a)":                      "name f / mark ( / name a / mark )",
		"1.5>=2":                    "number 1.5 / mark >= / number 2",
		"-1":                        "mark - / number 1",
		"5-3m":                      "number 5 / mark - / dur 3m",
		"a + b * c":                 "name a / mark + / name b / mark * / name c",
		"1,2":                       "number 1 / mark , / number 2",
		`"a""b"`:                    "text a / text b",
		`"a"b"c"1"d"`:               "text a / name b / text c / number 1 / text d",
		`a"b"`:                      "name a / text b",
		`5m"b"`:                     "dur 5m / text b",
		"a5 5a":                     "refused",
		":5:":                       "name :5:",
		"0s 0":                      "dur 0s / number 0",
		"offset 1h30m":              "name offset / dur 1h30m",
		`{__name__=~"a.*", b!~"c"}`: "mark { / name __name__ / mark =~ / text a.* / mark , / name b / mark !~ / text c / mark }",
		"sum by (job) (rate(a[1m])) / on (job) b": "name sum / name by / mark ( / name job / mark ) / mark ( / name rate / mark ( / name a / mark [ / dur 1m / mark ] / mark ) / mark ) / mark / / name on / mark ( / name job / mark ) / name b",
	} {
		l, _, e := lex.Scan(s)
		var parts []string
		for _, x := range l {
			if kind := []string{"none", "name", "number", "dur", "text", "mark", ""}[x.Kind]; kind != "" {
				parts = append(parts, kind+" "+x.Text)
			}
		}
		if e != api.OK {
			parts = []string{"refused"}
		}
		if text := strings.Join(parts, " / "); text != want {
			t.Errorf("%q: %s", s, text)
		}
		agrees(t, s)
	}
}

// A text may have so many bytes, whatever they are, and no more.
func TestScanBig(t *testing.T) {
	for _, piece := range []string{" ", "a", "(", "1 ", "#", "# \xff", "a ", "\n", `"a"`, "=="} {
		s := strings.Repeat(piece, api.MaxText)
		if l, at, e := lex.Scan(s[:api.MaxText-api.MaxText%len(piece)]); e != api.OK || at != 0 || len(l) == 0 {
			t.Errorf("%q, many times: %d, %d", piece, at, e)
		}
		for _, size := range []int{api.MaxText + 1, api.MaxText + 2, 2 * api.MaxText} {
			refused(t, []bad{{strings.Repeat(piece, size)[:size], 0, api.ErrBig}})
		}
	}
	// It is told ahead of what is wrong within.
	for _, size := range []int{1024, 1025, 1 << 20} {
		for _, piece := range []string{"$", "\x00", "1.50 ", "2x ", "\"\n", "9"} {
			want := bad{strings.Repeat(piece, size)[:size], 0, api.ErrBig}
			if size == 1024 {
				want.e = api.ErrSyntax
			}
			if size == 1024 && piece == "9" {
				want.e = api.ErrOver
			}
			refused(t, []bad{want})
		}
	}
	refused(t, []bad{{strings.Repeat(" ", 1023) + "$", 1023, api.ErrSyntax}, {strings.Repeat(" ", 1024) + "$", 0, api.ErrBig}})
	if x := one(t, strings.Repeat("n", api.MaxText)); x.Kind != api.TName || len(x.Text) != api.MaxText {
		t.Errorf("%v", x)
	}
}

func TestScanNames(t *testing.T) {
	letters := "abcdefghijklmnopqrstuvwxyzABCDEFGHIJKLMNOPQRSTUVWXYZ_:"
	for i := range 256 {
		c := string([]byte{byte(i)})
		first := strings.Contains(letters, c)
		later := first || strings.Contains("0123456789", c)
		l, _, e := lex.Scan(c)
		if is := e == api.OK && l[0].Kind == api.TName; is != first {
			t.Errorf("%q: %v", c, is)
		}
		l, _, e = lex.Scan("a" + c + "b")
		if is := e == api.OK && l[0].Text == "a"+c+"b"; is != later {
			t.Errorf("a, %q, b: %v", c, is)
		}
		for _, s := range []string{c, c + "a", "a" + c, c + c, "_" + c + "9", "a " + c, c + " a"} {
			agrees(t, s)
		}
	}
	for _, s := range []string{"a", "_", ":", "::", "__name__", "a:b:c", "A1", "w", "ms", "e5", "or", strings.Repeat("x", 33), strings.Repeat("x", 500)} {
		if x := one(t, s); x != (api.Token{Kind: api.TName, Text: s}) {
			t.Errorf("%q: %v", s, x)
		}
	}
	refused(t, []bad{{"aü", 1, api.ErrSyntax}, {"ü", 0, api.ErrSyntax}, {"a.b", 1, api.ErrSyntax}, {"a\x00", 1, api.ErrSyntax}})
}

func TestScanNumbers(t *testing.T) {
	for s, want := range map[string]int{
		"0": 0, "1": 1000000, "2.5": 2500000, "0.000001": 1, "0.5": 500000, "10": 10000000, "123.456": 123456000,
		greatest: 1 << 60, "1152921504606": 1152921504606000000, "1152921504606.846975": 1<<60 - 1,
	} {
		if x := one(t, s); x != (api.Token{Kind: api.TNumber, Text: s, N: want}) {
			t.Errorf("%q: %v", s, x)
		}
	}
	refused(t, syntax("1.50", "1.", "1..2", "1.2.3", "00", "01", "1.0", "0.0", "0.0000001", "1.1234567", "1e5", "0x1", "1_0", "1:0", "1_", "1:", "1.a", "1a.5", "1.5m", "1.5s", "99999999999999999999x", "99999999999999999999.", "99999999999999999999.10", "099999999999999999999", ".5", "."))
	over := []string{"1152921504606.846977", "1152921504607", "99999999999999999999", "1" + strings.Repeat("0", 1000), "9223372036854775808", "18446744073709551616", "18446744073709.551617"}
	for _, s := range over {
		refused(t, []bad{{s, 0, api.ErrOver}, {"a " + s, 2, api.ErrOver}, {"-" + s + ")", 1, api.ErrOver}})
	}
}

// The row of a number's bytes ends with the first byte that is none of its own.
func TestScanRows(t *testing.T) {
	for i := range 256 {
		c := string([]byte{byte(i)})
		for _, s := range []string{"5" + c, "5" + c + "5", "5m" + c, "5m" + c + "1", "5" + c + "m", "5." + c, "1.5" + c + "1", "0" + c, "0s" + c, c + "5"} {
			agrees(t, s)
		}
	}
	refused(t, []bad{{"a[5m].", 5, api.ErrSyntax}, {"5ü", 1, api.ErrSyntax}, {"5m.", 0, api.ErrSyntax}, {"(5x", 1, api.ErrSyntax}, {"5 m 5mm", 4, api.ErrSyntax}})
}

func TestScanDurations(t *testing.T) {
	for s, want := range map[string]int{
		"5m": 300000, "1h30m": 5400000, "0s": 0, "1ms": 1, "1s": 1000, "1m": 60000, "1h": 3600000, "1d": 86400000, "1w": 604800000,
		"1m1ms": 60001, "1m1s": 61000, longestDur: 1 << 31, "2147483648ms": 1 << 31, "90m": 5400000,
	} {
		if x := one(t, s); x != (api.Token{Kind: api.TDur, Text: s, N: want}) {
			t.Errorf("%q: %v", s, x)
		}
	}
	refused(t, syntax("0m", "01s", "1m1h", "0ms", "00s", "0s1ms", "1m0s", "1s1s", "1S", "1sm", "1mss", "1y", "1us", "1m1", "1m:", "5m_", "1h.5m", "99999999999999999999m0s"))
	for _, s := range []string{"3w3d20h31m23s649ms", "2147483649ms", "4w", "2147484s", "99999999999999999999w", "1w99999999999999999999ms", "18446744073709551617ms", "30500568904944w"} {
		refused(t, []bad{{s, 0, api.ErrOver}, {"a[" + s + "]", 2, api.ErrOver}})
	}
}

// laid tells a value as it stands between its marks.
func laid(value string) string {
	text := ""
	for _, c := range []byte(value) {
		switch {
		case c == '"' || c == '\\':
			text += `\` + string(rune(c))
		case c < 32 || c > 126:
			text += fmt.Sprintf(`\x%02x`, c)
		default:
			text += string(rune(c))
		}
	}
	return `"` + text + `"`
}

func TestScanTexts(t *testing.T) {
	values := []string{"", "x", "a b", `"`, `\`, `\"`, `"\`, `\\`, `\x41`, "ü", "# no", "\n", "a\tb", "}", `{a="b", c="d"}`, `", b="`, `="`, "/*", "'", "=~"}
	for i := range 256 {
		values = append(values, string([]byte{byte(i)}), string([]byte{'a', byte(i), 'b'}), strings.Repeat(string([]byte{byte(i)}), api.MaxWord))
	}
	for size := range api.MaxWord + 1 {
		values = append(values, strings.Repeat("v", size), strings.Repeat("\x80", size))
	}
	for _, v := range values {
		s := laid(v)
		if x := one(t, s); x != (api.Token{Kind: api.TText, Text: v}) {
			t.Errorf("%q: %v", v, x)
		}
		// What stands behind it is no part of it.
		for _, more := range []string{"a", `"`, `""`, " ", "}", `, b="c"`, `\`, "5", "#"} {
			agrees(t, s+more)
			agrees(t, "="+s+more)
		}
	}
}

func TestScanTextsRefused(t *testing.T) {
	refused(t, syntax(`"`, `"a`, `"\"`, `"\\\"`, `"a\"b`, `"\`, `"\x`, `"\x4`, `"\x00`, `"#`, "\"a\n\"", "\"\t\"", `"\n"`, `"\t"`, `"\a"`, `"\'"`, `"\x41"`, `"\x20"`, `"\x7e"`, `"\x22"`, `"\x5c"`, `"\xAB"`, `"\xFf"`, `"\x0A"`, `"\xg0"`, `"\x0"`, `"\x"`, `"\x"00"`, `"\X00"`, `"\u0041"`, "\"\x7f\"", "\"ü\"", "\"\xff\"", "\"\x00\"", "'a'", "`a`"))
	for _, v := range []string{strings.Repeat("v", 65), strings.Repeat("v", 500), strings.Repeat("\x00", 65), strings.Repeat(`"`, 65), strings.Repeat("v", 64) + `\`} {
		refused(t, []bad{{laid(v), 0, api.ErrSyntax}, {"a=" + laid(v), 2, api.ErrSyntax}})
	}
	for i := range 256 {
		c := string([]byte{byte(i)})
		for _, s := range []string{`"` + c + `"`, `"\` + c + `"`, `"\` + c + `1"`, `"\x` + c + `0"`, `"\x0` + c + `"`, fmt.Sprintf(`"\x%02x"`, i), fmt.Sprintf(`"\x%02X"`, i), `"a` + c + `b"`} {
			agrees(t, s)
		}
	}
}

// All pairs of bytes: which are a mark of two, and which are not.
func TestScanMarks(t *testing.T) {
	two := " =~ !~ == != <= >= "
	single := "=<>+-*/%(){}[],"
	for i := range 256 {
		a := string([]byte{byte(i)})
		l, _, e := lex.Scan(a)
		if is := e == api.OK && l[0] == (api.Token{Kind: api.TMark, Text: a}); is != strings.Contains(single, a) {
			t.Errorf("%q: %v", a, is)
		}
		for j := range 256 {
			b := string([]byte{byte(j)})
			l, _, e := lex.Scan(a + b)
			is := e == api.OK && l[0] == (api.Token{Kind: api.TMark, Text: a + b})
			if is != strings.Contains(two, " "+a+b+" ") || is && len(l) != 2 {
				t.Errorf("%q: %v", a+b, l)
			}
			agrees(t, a+b)
		}
	}
	for s, want := range map[string]string{
		"===": "== =", "====": "== ==", "<==": "<= =", "=<=": "= <=", "= =": "= =", "< =": "< =", "=>=": "= >=", "=!=": "= !=", "==~": "", "==!~": "== !~", "<>": "< >",
		"!": "", "!!": "", "! =": "", "=!": "", "!<": "", "a!": "", "~": "", "=~~": "", "<~": "", "!=~": "", "!==": "!= =", "--": "- -", "([{}])": "( [ { } ] )", "&": "", "|": "", "^": "", ";": "", ".": "", "@": "", "?": "",
	} {
		l, _, e := lex.Scan(s)
		var texts []string
		for _, x := range l {
			texts = append(texts, x.Text)
		}
		if text := strings.TrimSuffix(strings.Join(texts, " "), " "); text != want || (e == api.OK) != (want != "") {
			t.Errorf("%q: %q, %d", s, text, e)
		}
		agrees(t, s)
	}
	refused(t, []bad{{"!", 0, api.ErrSyntax}, {"a !", 2, api.ErrSyntax}, {"!=~", 2, api.ErrSyntax}, {"=!", 1, api.ErrSyntax}, {"! =", 0, api.ErrSyntax}, {"a.", 1, api.ErrSyntax}})
}

func TestScanRemarks(t *testing.T) {
	for s, want := range map[string][]int{
		"# a": {3}, "#": {1}, "##\n#": {4}, "a#b": {0, 3}, "a#b\nc": {0, 4, 5}, "# \"\na": {4, 5}, "#\n\n#\n a": {6, 7}, "5#m": {0, 3}, "=#\n=": {0, 3, 4}, "a # $ \xff\x00 1.50\n": {0, 14}, "#\r\na": {3, 4},
	} {
		l, _, e := lex.Scan(s)
		var places []int
		for _, x := range l {
			places = append(places, x.At)
		}
		if e != api.OK || !slices.Equal(places, want) {
			t.Errorf("%q: %v, %d", s, places, e)
		}
		agrees(t, s)
	}
	if x := one(t, `"a # b"`); x.Text != "a # b" {
		t.Errorf("%v", x)
	}
	// No other byte is a blank, and no remark goes on behind its line.
	refused(t, []bad{{"a\r", 1, api.ErrSyntax}, {"a\vb", 1, api.ErrSyntax}, {"a\f", 1, api.ErrSyntax}, {"\x00", 0, api.ErrSyntax}, {"a\u00a0b", 1, api.ErrSyntax}, {"# a\n$", 4, api.ErrSyntax}, {"#\n#\n\t$ #", 5, api.ErrSyntax}, {"// a.", 4, api.ErrSyntax}})
}

// The first token that is not as it must be is told, whatever is behind it.
func TestScanErrorOrder(t *testing.T) {
	ahead := []string{"", "a ", "\n# $\n", `{a="x"}`, "5m ", "1 + ", "=~", strings.Repeat("(", 900)}
	wrong := map[string]api.Errno{"$": api.ErrSyntax, "2x": api.ErrSyntax, "1.50": api.ErrSyntax, `"\a`: api.ErrSyntax, "!": api.ErrSyntax, "99999999999999999999": api.ErrOver, "4w": api.ErrOver, "0m": api.ErrSyntax}
	for _, front := range ahead {
		for one, e := range wrong {
			refused(t, []bad{{front + one, len(front), e}, {front + one + " b", len(front), e}})
			for other := range wrong {
				refused(t, []bad{{front + one + " " + other, len(front), e}})
			}
		}
	}
}

// P15.2: Dur, PrintDur

func TestDurExamples(t *testing.T) {
	if n, e := lex.Dur("1h30m"); n != 5400000 || e != api.OK {
		t.Errorf("%d, %d", n, e)
	}
	if s, e := lex.PrintDur(90061001); s != "1d1h1m1s1ms" || e != api.OK {
		t.Errorf("%q, %d", s, e)
	}
	for _, s := range []string{"1m1h", "0m", "01s"} {
		if n, e := lex.Dur(s); n != 0 || e != api.ErrSyntax {
			t.Errorf("%q: %d, %d", s, n, e)
		}
	}
}

// durAgrees looks whether Dur tells what the tests' own way tells.
func durAgrees(t *testing.T, s string) {
	t.Helper()
	want, wantE := durOf(s)
	if n, e := lex.Dur(s); n != want || e != wantE {
		t.Fatalf("%.300q: %d, %d, not %d, %d", s, n, e, want, wantE)
	}
}

func TestDur(t *testing.T) {
	nines := strings.Repeat("9", 1<<16)
	for s, want := range map[string]api.Errno{
		"": api.ErrSyntax, "5": api.ErrSyntax, "m": api.ErrSyntax, "s": api.ErrSyntax, "0": api.ErrSyntax, "0s": api.OK, "00s": api.ErrSyntax, "0ms": api.ErrSyntax, "0w": api.ErrSyntax, "0s0ms": api.ErrSyntax, "1m0s": api.ErrSyntax, "0m1s": api.ErrSyntax,
		" 1m": api.ErrSyntax, "1m ": api.ErrSyntax, "1 m": api.ErrSyntax, "1m 1s": api.ErrSyntax, "-1m": api.ErrSyntax, "+1m": api.ErrSyntax, "1.5m": api.ErrSyntax, "1M": api.ErrSyntax, "1Ms": api.ErrSyntax, "1_0s": api.ErrSyntax, "0x1s": api.ErrSyntax, "1m#": api.ErrSyntax, "١m": api.ErrSyntax, "1m\x00": api.ErrSyntax,
		"1w1d1h1m1s1ms": api.OK, "1w1ms": api.OK, "1d1m": api.OK, "1ms1s": api.ErrSyntax, "1s1m": api.ErrSyntax, "1d1w": api.ErrSyntax, "1w1w": api.ErrSyntax, "1ms1ms": api.ErrSyntax, "1m1m": api.ErrSyntax, "1mm": api.ErrSyntax, "1mw": api.ErrSyntax, "1wd": api.ErrSyntax,
		longestDur: api.OK, "3w3d20h31m23s649ms": api.ErrOver, "3w3d20h31m24s": api.ErrOver, "3w": api.OK, "4w": api.ErrOver, "24d": api.OK, "25d": api.ErrOver, "596h": api.OK, "597h": api.ErrOver, "35791m": api.OK, "35792m": api.ErrOver, "2147483s": api.OK, "2147484s": api.ErrOver, "2147483648ms": api.OK, "2147483649ms": api.ErrOver, "3w24d": api.ErrOver, "3w3d20h31m23s648ms1": api.ErrSyntax,
		// The form is ahead of the length, however long the digits are.
		nines: api.ErrSyntax, nines + "w": api.ErrOver, nines + "ms": api.ErrOver, "1w" + nines + "s": api.ErrOver, nines + "w" + nines + "d" + nines + "h" + nines + "m" + nines + "s" + nines + "ms": api.ErrOver, nines + "w0s": api.ErrSyntax, nines + "y": api.ErrSyntax, "0" + nines + "s": api.ErrSyntax, nines + "s1m": api.ErrSyntax, nines + "m" + nines: api.ErrSyntax,
		// Lengths that are small where they wrap round.
		"18446744073709551617ms": api.ErrOver, "18446744073709551616s": api.ErrOver, "9223372036854775807w": api.ErrOver, "9223372036854775808ms": api.ErrOver, "30500568904944w": api.ErrOver, "9223372036854775807ms": api.ErrOver, "4294967297ms": api.ErrOver, "15250284452472w1ms": api.ErrOver,
	} {
		if _, e := lex.Dur(s); e != want {
			t.Errorf("%.80q: %d, not %d", s, e, want)
		}
		durAgrees(t, s)
	}
}

// All texts of few bytes, and all rows of few parts.
func TestDurOfSmallTexts(t *testing.T) {
	level, taken := []string{""}, 0
	for range 6 {
		var next []string
		for _, s := range level {
			for _, c := range "017wdhms" {
				next = append(next, s+string(c))
			}
		}
		for _, s := range next {
			durAgrees(t, s)
			if _, e := lex.Dur(s); e == api.OK {
				taken++
			}
		}
		level = next
	}
	if taken < 100 {
		t.Errorf("only %d are taken", taken)
	}
	level = []string{""}
	for range 4 {
		var next []string
		for _, s := range level {
			for _, digits := range []string{"1", "10", "0", "01", "", "3550"} {
				for _, name := range []string{"w", "d", "h", "m", "s", "ms"} {
					next = append(next, s+digits+name)
				}
			}
		}
		for _, s := range next {
			durAgrees(t, s)
		}
		level = next[:min(len(next), 1296)]
	}
}

// Any one byte in place of another one.
func TestDurOfOtherBytes(t *testing.T) {
	for _, s := range []string{"1w", "0s", "1h30m", longestDur, "1w2d3h4m5s6ms", "10ms"} {
		for at := range len(s) + 1 {
			for i := range 256 {
				c := string([]byte{byte(i)})
				durAgrees(t, s[:at]+c+s[at:])
				if at < len(s) {
					durAgrees(t, s[:at]+c+s[at+1:])
				}
			}
		}
	}
}

// printed tells the duration of a length, unit by unit.
func printed(n int) string {
	if n == 0 {
		return "0s"
	}
	s := ""
	part := func(length int, name string) {
		if n/length > 0 {
			s += fmt.Sprint(n/length) + name
		}
		n %= length
	}
	part(7*24*3600*1000, "w")
	part(24*3600*1000, "d")
	part(3600*1000, "h")
	part(60*1000, "m")
	part(1000, "s")
	part(1, "ms")
	return s
}

// lengths are durations' lengths: the edges of all units, and ordinary ones.
func lengths() []int {
	l := []int{0, api.MaxDur, api.MaxDur - 1, api.Lookback, 90061001, 5400000, 123456789}
	for _, length := range []int{1, 1000, 60000, 3600000, 86400000, 604800000} {
		for _, times := range []int{1, 2, 3, 6, 7, 10, 23, 24, 59, 60, 999, 1000} {
			for _, more := range []int{-1, 0, 1} {
				if n := length*times + more; n <= api.MaxDur {
					l = append(l, n)
				}
			}
		}
	}
	for n := 1; n <= api.MaxDur; n += 104729 {
		l = append(l, n)
	}
	return l
}

func TestPrintDur(t *testing.T) {
	for n, want := range map[int]string{
		0: "0s", 1: "1ms", 999: "999ms", 1000: "1s", 1001: "1s1ms", 60000: "1m", 90000: "1m30s", 300000: "5m", 3600000: "1h", 86400000: "1d", 604800000: "1w", 1209600000: "2w", 691200000: "1w1d", 604800001: "1w1ms", 86399999: "23h59m59s999ms", 604799999: "6d23h59m59s999ms", api.MaxDur: longestDur,
	} {
		if s, e := lex.PrintDur(n); s != want || e != api.OK {
			t.Errorf("%d: %q, %d", n, s, e)
		}
	}
	for _, n := range lengths() {
		if s, e := lex.PrintDur(n); s != printed(n) || e != api.OK {
			t.Errorf("%d: %q, %d", n, s, e)
		}
	}
	for _, n := range []int{-1, -2, -1000, api.MaxDur + 1, api.MaxDur + 604800000, api.MaxTime, 1 << 32, math.MaxInt, math.MinInt, math.MinInt + 1} {
		if s, e := lex.PrintDur(n); s != "" || e != api.ErrOver {
			t.Errorf("%d: %q, %d", n, s, e)
		}
	}
}

// P15.3 to P15.5, and the rules that hold everywhere

// A dice throws numbers, the same ones in each run.
type dice uint64

func (d *dice) throw(n int) int {
	*d = *d*6364136223846793005 + 1442695040888963407
	return int(*d >> 33 % dice(n))
}

// of throws one of some.
func (d *dice) of(some ...string) string {
	return some[d.throw(len(some))]
}

// tokens throws right tokens' bytes.
func (d *dice) tokens(most int) []string {
	var l []string
	for range d.throw(most + 1) {
		switch d.throw(5) {
		case 0:
			l = append(l, d.of("a", "_", ":", "job", "rate", "by", "a:b", "x9", "ms"))
		case 1:
			l = append(l, d.of("0", "1", "2.5", "0.000001", greatest))
		case 2:
			l = append(l, d.of("0s", "5m", "1h30m", "1w1ms", longestDur))
		case 3:
			l = append(l, d.of(`""`, `"x"`, `"# "`, `"\"\\"`, `"\x00\xff"`, `"a b"`))
		case 4:
			l = append(l, d.of("=~", "!~", "==", "!=", "<=", ">=", "=", "<", ">", "+", "-", "*", "/", "%", "(", ")", "{", "}", "[", "]", ","))
		}
	}
	return l
}

// blanks throws blanks and remarks, at least one byte.
func (d *dice) blanks() string {
	s := d.of(" ", "\t", "\n", "# no\n", "#\n")
	for range d.throw(3) {
		s += d.of(" ", "\t", "\n", "# \"$\xff 1.50\n", "##\n")
	}
	return s
}

// text throws bytes of all kinds, most of which are no query.
func (d *dice) text(most int) string {
	var b strings.Builder
	for range d.throw(most + 1) {
		b.WriteString(d.of("a", "x", "m", "s", "w", "_", ":", "0", "1", "5", "9", ".", "=", "!", "~", "<", ">", "\"", "\\", "\\x0", "#", " ", "\n", "\t", "(", "}", ",", "-", "$", "\xff", "\x00", "1m", `"b"`))
	}
	return b.String()
}

func TestScanOfAnyText(t *testing.T) {
	d, taken := dice(3), 0
	for range 60000 {
		s := d.text([]int{4, 12, 100}[d.throw(3)])
		agrees(t, s)
		if _, _, e := lex.Scan(s); e == api.OK && s != "" {
			taken++
		}
	}
	for range 20000 {
		agrees(t, strings.Join(d.tokens(12), d.of("", " ")))
	}
	if taken < 3000 {
		t.Errorf("only %d are taken", taken)
	}
}

// laidToken tells the bytes with which a token stands in a query.
func laidToken(x api.Token) string {
	if x.Kind == api.TText {
		return laid(x.Text)
	}
	return x.Text
}

// P15.3
func TestPlaces(t *testing.T) {
	d := dice(7)
	for range 20000 {
		s := d.of("", d.blanks()) + strings.Join(d.tokens(10), d.blanks()) + d.of("", d.blanks(), " # end")
		l, _, e := lex.Scan(s)
		if e != api.OK || len(l) == 0 || l[len(l)-1].Kind != api.TEnd || l[len(l)-1].At != len(s) {
			t.Fatalf("%q: %v, %d", s, l, e)
		}
		end := 0
		for i, x := range l {
			if (x.Kind == api.TEnd) != (i == len(l)-1) || x.At < end || x.At > len(s) || !strings.HasPrefix(s[x.At:], laidToken(x)) {
				t.Fatalf("%q: %v", s, l)
			}
			if between := s[end:x.At]; blankForm.FindString(between) != between {
				t.Fatalf("%q: %q ahead of %v", s, between, x)
			}
			end = x.At + len(laidToken(x))
		}
	}
}

// P15.4
func TestBlanks(t *testing.T) {
	d := dice(11)
	withoutPlaces := func(s string) []api.Token {
		l, at, e := lex.Scan(s)
		if e != api.OK || at != 0 {
			t.Fatalf("%q: %d, %d", s, at, e)
		}
		for i := range l {
			l[i].At = 0
		}
		return l
	}
	for range 20000 {
		parts := d.tokens(10)
		few := strings.Join(parts, " ")
		more := d.of("", d.blanks())
		for _, p := range parts {
			more += p + d.blanks()
		}
		l, longer := withoutPlaces(few), withoutPlaces(more)
		if len(l) != len(parts)+1 || !slices.Equal(l, longer) {
			t.Fatalf("%q: %v, and %q: %v", few, l, more, longer)
		}
	}
	// Between tokens that need no blank, too.
	for range 20000 {
		s := strings.Join(d.tokens(8), "")
		l, _, e := lex.Scan(s)
		if e != api.OK {
			continue
		}
		more := ""
		for _, x := range l {
			more += d.blanks() + laidToken(x)
		}
		if want := withoutPlaces(s); !slices.Equal(want, withoutPlaces(more)) {
			t.Fatalf("%q, and %q", s, more)
		}
	}
}

// P15.5
func TestDurationsThereAndBack(t *testing.T) {
	for _, n := range lengths() {
		s, _ := lex.PrintDur(n)
		if back, e := lex.Dur(s); back != n || e != api.OK {
			t.Fatalf("%d: %q, %d, %d", n, s, back, e)
		}
		if x := one(t, s); x != (api.Token{Kind: api.TDur, Text: s, N: n}) {
			t.Fatalf("%d: %v", n, x)
		}
	}
}

func TestDurationsScanned(t *testing.T) {
	d, both := dice(13), 0
	for range 60000 {
		s := ""
		for range 1 + d.throw(4) {
			s += d.of("1", "5", "0", "30", "07", "", "99") + d.of("w", "d", "h", "m", "s", "ms", "ms", "")
		}
		n, e := lex.Dur(s)
		l, _, _ := lex.Scan(s)
		isDur := len(l) == 2 && l[0].Kind == api.TDur
		if isDur != (e == api.OK) || isDur && l[0] != (api.Token{Kind: api.TDur, Text: s, N: n}) {
			t.Fatalf("%q: %d, %d, and %v", s, n, e, l)
		}
		if isDur {
			both++
		}
	}
	if both < 5000 {
		t.Errorf("only %d are durations", both)
	}
}

// An answer is new, and none hangs on the calls ahead.
func TestAnswersAreNew(t *testing.T) {
	s := `a{b=~"x\"y", c!="z"}[5m] offset 1h30m >= -2.5 # end`
	want, _, _ := scanned(s)
	for range 3 {
		l, at, e := lex.Scan(s)
		if !slices.Equal(l, want) || at != 0 || e != api.OK {
			t.Fatalf("%v, %d, %d", l, at, e)
		}
		clear(l)
		clear(l[:cap(l)])
		lex.Scan("1 $")
		lex.Dur("99999999999999999999w")
		lex.PrintDur(-1)
	}
}
