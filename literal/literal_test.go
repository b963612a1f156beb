package literal

import (
	"fmt"
	"math"
	"regexp"
	"strconv"
	"strings"
	"sync"
	"testing"
	"unicode/utf8"

	"arraylang/api"
)

// broken are texts all of whose bytes are not part of an encoding of a character: stray and cut off bytes, encodings that are too long, and those of surrogates and of too great numbers.
var broken = []string{
	"\x80", "\xbf", "\xc0", "\xc1", "\xc3", "\xdf", "\xe0", "\xe2", "\xef", "\xf0", "\xf4", "\xf5", "\xfe", "\xff",
	"\xe2\x82", "\xef\xbf", "\xf0\x9f", "\xf0\x9f\x98", "\xf4\x8f\xbf",
	"\xc0\x80", "\xc1\xbf", "\xe0\x80\x80", "\xe0\x9f\xbf", "\xf0\x80\x80\x80", "\xf0\x8f\xbf\xbf",
	"\xed\xa0\x80", "\xed\xad\xbf", "\xed\xbf\xbf", "\xf4\x90\x80\x80", "\xf7\xbf\xbf\xbf", "\xf8\x88\x80\x80\x80",
}

// edges are the numbers around each limit between kinds of characters.
var edges = []rune{
	0, 1, 8, 9, 10, 11, 12, 13, 14, 15, 16, 17, 30, 31, 32, 33, 34, 35, 38, 39, 40, 47, 48, 57, 58, 91, 92, 93, 96, 97, 102, 103, 110, 114, 116, 117,
	122, 123, 124, 125, 126, 127, 128, 129, 159, 160, 255, 256, 0x7FF, 0x800, 0xD7FE, 0xD7FF, 0xE000, 0xE001, 0xFEFF, 0xFFFC, 0xFFFD, 0xFFFE, 0xFFFF,
	0x10000, 0x10001, 0x1F600, 0x10FFFE, 0x10FFFF,
}

// code matches the hexadecimal digits of the code point of a character.
const code = `(?:(?:0[1-9a-f]|10)[0-9a-f]{4}|[1-9a-f][0-9a-f]{4}|0{0,2}(?:[0-9abcef][0-9a-f]{3}|d[0-7][0-9a-f]{2})|[0-9a-f]{1,3})`

// escape matches an escape, and start the beginning of one.
const (
	escape = `\\(?:[ntr\\'"]|u\{` + code + `\})`
	start  = `\\(?:u(?:\{[0-9a-f]{0,6})?)?`
)

// grammar is the chapter's grammar of a literal: whole matches a literal, part a text with which one can begin, and done one with which only the closing quote is missing.
type grammar struct{ whole, part, done *regexp.Regexp }

func grammarOf(quote string) grammar {
	unit := `(?:[^\x00-\x1f\\` + quote + `]|` + escape + `)`
	if quote == `"` {
		return grammar{
			whole: regexp.MustCompile(`^"` + unit + `*"$`),
			part:  regexp.MustCompile(`^(?:"` + unit + `*(?:` + start + `)?)?$`),
		}
	}
	return grammar{
		whole: regexp.MustCompile(`^'` + unit + `'$`),
		part:  regexp.MustCompile(`^(?:'(?:` + unit + `|` + start + `)?)?$`),
		done:  regexp.MustCompile(`^'` + unit + `$`),
	}
}

var stringGrammar, charGrammar = grammarOf(`"`), grammarOf(`'`)

// reference reads the literal at the beginning of s: it looks for the shortest whole literal, and otherwise for the first position at which no literal can go on.
func (g grammar) reference(s string) (string, int, api.Errno) {
	stop := 0
	for k := 0; k <= len(s); k++ {
		if !utf8.ValidString(s[:k]) {
			continue
		}
		if g.whole.MatchString(s[:k]) {
			return meaning(s[1 : k-1]), k, api.OK
		}
		if g.part.MatchString(s[:k]) {
			stop = k
		}
	}
	switch {
	case stop == 0, stop == len(s), s[stop] == '\n':
		return "", 0, api.ErrString
	case g.done != nil && (stop == 1 && s[1] == '\'' || g.done.MatchString(s[:stop])):
		return "", 0, api.ErrString
	}
	return "", 0, api.ErrChar
}

var escapes = regexp.MustCompile(escape)

// meaning returns what the inside of a literal stands for.
func meaning(s string) string {
	return escapes.ReplaceAllStringFunc(s, func(e string) string {
		switch e[1] {
		case 'n', 't', 'r':
			return map[byte]string{'n': "\n", 't': "\t", 'r': "\r"}[e[1]]
		case 'u':
			n, err := strconv.ParseInt(e[3:len(e)-1], 16, 64)
			if err != nil {
				panic(err)
			}
			return string(rune(n))
		}
		return e[1:]
	})
}

// form returns the short form of c, as the chapter defines it.
func form(c rune, quote string) string {
	if simple, ok := map[rune]string{10: `\n`, 9: `\t`, 13: `\r`, 92: `\\`}[c]; ok {
		return simple
	}
	switch {
	case string(c) == quote:
		return `\` + quote
	case c < 32 || c == 127:
		return fmt.Sprintf(`\u{%x}`, c)
	}
	return string(c)
}

// quoted returns the literal of s that the chapter defines.
func quoted(s string) string {
	literal := `"`
	for len(s) > 0 {
		c, size := utf8.DecodeRuneInString(s)
		literal += form(c, `"`)
		s = s[size:]
	}
	return literal + `"`
}

// isValid reports whether r is a character.
func isValid(r rune) bool { return 0 <= r && r <= 1114111 && !(55296 <= r && r <= 57343) }

// shown returns s as it stands in a message, where a long text is cut.
func shown(s string) string {
	if len(s) > 100 {
		return strconv.Quote(s[:100]) + "..."
	}
	return strconv.Quote(s)
}

func checkUnquote(t *testing.T, s, text string, size int, e api.Errno) {
	t.Helper()
	gotText, gotSize, gotE := Unquote(s)
	if gotText != text || gotSize != size || gotE != e {
		t.Errorf("Unquote(%s) = %s, %d, %d; want %s, %d, %d", shown(s), shown(gotText), gotSize, gotE, shown(text), size, e)
	}
}

func checkRune(t *testing.T, s string, r rune, size int, e api.Errno) {
	t.Helper()
	gotR, gotSize, gotE := Rune(s)
	if gotR != r || gotSize != size || gotE != e {
		t.Errorf("Rune(%s) = %d, %d, %d; want %d, %d, %d", shown(s), gotR, gotSize, gotE, r, size, e)
	}
}

// checkReference checks that Unquote and Rune return what the reference returns.
func checkReference(t *testing.T, s string) {
	t.Helper()
	text, size, e := stringGrammar.reference(s)
	checkUnquote(t, s, text, size, e)
	text, size, e = charGrammar.reference(s)
	r := rune(0)
	for _, c := range text {
		r = c
	}
	checkRune(t, s, r, size, e)
}

// checkBoth checks the error of a text behind both kinds of opening quotes.
func checkBoth(t *testing.T, inside string, e api.Errno) {
	t.Helper()
	checkUnquote(t, `"`+inside, "", 0, e)
	checkRune(t, `'`+inside, 0, 0, e)
}

// eachText calls visit with all texts of at most most parts.
func eachText(parts []string, most int, visit func(string)) {
	var extend func(s string, left int)
	extend = func(s string, left int) {
		visit(s)
		if left == 0 {
			return
		}
		for _, part := range parts {
			extend(s+part, left-1)
		}
	}
	extend("", most)
}

// eachCharacter calls visit with every character.
func eachCharacter(visit func(rune)) {
	for r := rune(0); r <= 1114111; r++ {
		if isValid(r) {
			visit(r)
		}
	}
}

func TestP901AnyArguments(t *testing.T) {
	for _, r := range []rune{math.MinInt32, math.MinInt32 + 1, -0x10FFFF, -128, -2, -1, 0xD800, 0xDBFF, 0xDC00, 0xDFFF, 0x110000, 0x110001, 0x1FFFFF, math.MaxInt32} {
		if s := ShowRune(r); s != "" {
			t.Errorf("ShowRune(%d) = %q", r, s)
		}
	}
	long := strings.Repeat("a\n\\\xff\U0001F600", 1<<18)
	if s := Quote(long); s != `"`+strings.Repeat("a\\n\\\\\uFFFD\U0001F600", 1<<18)+`"` {
		t.Error("Quote of a long text")
	}
	checkUnquote(t, long, "", 0, api.ErrString)
	checkRune(t, long, 0, 0, api.ErrString)
	checkUnquote(t, `"`+strings.Repeat(`é\u{1f600}\'`, 1<<18)+`"`, strings.Repeat("é\U0001F600'", 1<<18), 13<<18+2, api.OK)
	checkUnquote(t, `"`+strings.Repeat("x", 1<<22), "", 0, api.ErrString)
	checkUnquote(t, `"`+strings.Repeat("\\", 1<<20), "", 0, api.ErrString)
	checkUnquote(t, `"\u{`+strings.Repeat("0", 1<<20)+`}"`, "", 0, api.ErrChar)
	checkRune(t, `'\u{`+strings.Repeat("0", 1<<20)+`}'`, 0, 0, api.ErrChar)
	checkRune(t, `'`+strings.Repeat("x", 1<<22), 0, 0, api.ErrString)
}

func TestP901Purity(t *testing.T) {
	calls := func() string {
		a, n, e := Unquote(`"\u{41}b"`)
		b, m, f := Rune(`'\u{12}'`)
		return fmt.Sprint(a, n, e, b, m, f, Quote("a\x00"), ShowRune(7))
	}
	want := calls()
	Unquote(`"\u{10ffff`)
	Rune(`'\u{10ffff`)
	Unquote("\"abc\xff")
	Rune(`'ab'`)
	if got := calls(); got != want {
		t.Errorf("%q, and then %q", want, got)
	}
	var workers sync.WaitGroup
	for range 8 {
		workers.Go(func() {
			for range 1000 {
				if got := calls(); got != want {
					t.Errorf("%q, and then %q", want, got)
				}
			}
		})
	}
	workers.Wait()
}

func TestP902Examples(t *testing.T) {
	for s, want := range map[string]string{
		"":           `""`,
		"a\n\"":      `"a\n\""`,
		"\t\r\n":     `"\t\r\n"`,
		`\`:          `"\\"`,
		`\n`:         `"\\n"`,
		`'`:          `"'"`,
		`"'"`:        `"\"'\""`,
		"\x00":       `"\u{0}"`,
		"\x0f\x10":   `"\u{f}\u{10}"`,
		"\x1f \x7f":  `"\u{1f} \u{7f}"`,
		"\u0080":     "\"\u0080\"",
		"~é€😀":       `"~é€😀"`,
		"\uFFFD":     "\"\uFFFD\"",
		"\U0010FFFF": "\"\U0010FFFF\"",
		"\xff":       "\"\uFFFD\"",
		"a\x80b":     "\"a\uFFFDb\"",
		"\xe2\x82":   "\"\uFFFD\uFFFD\"",
		"\xe2\"":     "\"\uFFFD\\\"\"",
		"\xf0\x9f\n": "\"\uFFFD\uFFFD\\n\"",
		"# ; {} 1":   `"# ; {} 1"`,
	} {
		if got := Quote(s); got != want {
			t.Errorf("Quote(%q) = %s; want %s", s, got, want)
		}
	}
}

func TestP902Characters(t *testing.T) {
	eachCharacter(func(r rune) {
		if got, want := Quote(string(r)), `"`+form(r, `"`)+`"`; got != want {
			t.Errorf("Quote(%q) = %s; want %s", r, got, want)
		}
	})
	for _, a := range edges {
		for _, b := range edges {
			if got, want := Quote(string(a)+string(b)), `"`+form(a, `"`)+form(b, `"`)+`"`; got != want {
				t.Errorf("Quote of %d and %d = %s; want %s", a, b, got, want)
			}
		}
	}
}

func TestP902BrokenBytes(t *testing.T) {
	for _, s := range broken {
		want := strings.Repeat("\uFFFD", len(s))
		for _, c := range []struct{ before, behind string }{{"", ""}, {"a", "b"}, {"é", "é"}, {"\uFFFD", "\uFFFD"}, {"\xff", "\xff"}, {"😀", "\n"}} {
			if got := Quote(c.before + s + c.behind); got != quoted(c.before)[:len(quoted(c.before))-1]+want+quoted(c.behind)[1:] {
				t.Errorf("Quote(%q) = %q", c.before+s+c.behind, got)
			}
		}
	}
	for a := range 256 {
		for b := range 256 {
			s := string([]byte{byte(a), byte(b)})
			if got, want := Quote(s), quoted(s); got != want {
				t.Errorf("Quote(%q) = %q; want %q", s, got, want)
			}
		}
	}
	eachText([]string{"a", "\x80", "\xbf", "\xc3", "\xe2", "\xed", "\xa0", "\xef", "\xf0", "\x9f", "\xf4", "\n"}, 4, func(s string) {
		if got, want := Quote(s), quoted(s); got != want {
			t.Errorf("Quote(%q) = %q; want %q", s, got, want)
		}
	})
}

func TestP903Examples(t *testing.T) {
	checkUnquote(t, `"x\u{41}" + 1`, "xA", 9, api.OK)
	checkUnquote(t, `"ab`, "", 0, api.ErrString)
	checkUnquote(t, `"\q"`, "", 0, api.ErrChar)
	checkUnquote(t, `"\u{110000}"`, "", 0, api.ErrChar)
	checkUnquote(t, `"\u{110000`, "", 0, api.ErrString)
	checkUnquote(t, `""`, "", 2, api.OK)
	checkUnquote(t, `"" "b"`, "", 2, api.OK)
	checkUnquote(t, `"\n\t\r\\\'\""`, "\n\t\r\\'\"", 14, api.OK)
	checkUnquote(t, `"it's # no; comment"`, "it's # no; comment", 20, api.OK)
	checkUnquote(t, `"é€😀"z`, "é€😀", 11, api.OK)
	checkUnquote(t, "\"\uFFFD\x7f\u0080\"", "\uFFFD\x7f\u0080", 8, api.OK)
	checkUnquote(t, "\"a\"\xff\n\x00", "a", 3, api.OK)
	checkUnquote(t, `"\u{d}\u{0000a}\u{10ffff}\u{0}"`, "\r\n\U0010FFFF\x00", 31, api.OK)
}

func TestP903NoQuote(t *testing.T) {
	for _, s := range []string{"", "a", " ", ` "a"`, `'a'`, `'"'`, `\"`, "\n", "\n\"a\"", "\x00", "\xff", "\xff\"", "\xc2\"", "é", "\uFFFD\"", "1"} {
		checkUnquote(t, s, "", 0, api.ErrString)
	}
}

func TestP903Ends(t *testing.T) {
	for _, s := range []string{``, `a`, `\`, `a\`, `\u`, `\u{`, `\u{0`, `\u{110000`, `\u{ffffff`, `\u{d800`, `a\u{41`, `\u{41}`, `\"`, `\\`, `\\\`, `é`, `'`, `\'`} {
		checkUnquote(t, `"`+s, "", 0, api.ErrString)
		for _, behind := range []string{"", `"`, `}"`, "\xff", "\\q"} {
			checkUnquote(t, `"`+s+"\n"+behind, "", 0, api.ErrString)
		}
	}
	checkUnquote(t, "\"\r\n\"", "", 0, api.ErrChar)
	checkUnquote(t, "\"\n\r\"", "", 0, api.ErrString)
}

func TestP903WrongCharacters(t *testing.T) {
	wrong := append([]string{}, broken...)
	for c := range 32 {
		if c != '\n' {
			wrong = append(wrong, string(rune(c)))
		}
	}
	for _, before := range []string{``, `a`, `é`, `\n`, `\u{41}`, `\`, `\u`, `\u{`, `\u{0`, `\u{110000`, `'`} {
		for _, s := range wrong {
			for _, behind := range []string{``, `"`, "\n", `}"`, `\q`} {
				checkUnquote(t, `"`+before+s+behind, "", 0, api.ErrChar)
			}
		}
	}
}

func TestP903WrongEscapes(t *testing.T) {
	for c := rune(32); c < 0x3000; c++ {
		if strings.ContainsRune(`ntru\'"`, c) {
			continue
		}
		checkBoth(t, `\`+string(c), api.ErrChar)
		checkBoth(t, `\`+string(c)+"\n", api.ErrChar)
	}
	for c := rune(32); c < 0x3000; c++ {
		if c != '{' {
			checkBoth(t, `\u`+string(c), api.ErrChar)
		}
		if strings.ContainsRune("0123456789abcdef", c) {
			continue
		}
		checkBoth(t, `\u{`+string(c), api.ErrChar)
		if c != '}' {
			checkBoth(t, `\u{1`+string(c)+"\n", api.ErrChar)
			checkBoth(t, `\u{10ffff`+string(c), api.ErrChar)
		}
	}
	for _, s := range []string{`\u{}`, `\u{0000000`, `\u{0000041}`, `\u{1234567}`, `\u41`, `\u{A}`, `\u{0x1}`, `\u{ 1}`, `\u{1 }`, `\u{-1}`, `\u{+1}`, `\u{_1}`, `\u{1_0}`, `\U{41}`, `\x41`, `\N`, `\0`, `\a`, `\u{\u{1}}`, `\u{41"`, `\u{41'`, `\u"`, `\u'`} {
		for _, behind := range []string{"", `"`, `'`, "\n", "\xff"} {
			checkBoth(t, s+behind, api.ErrChar)
		}
	}
}

func TestP903CodePoints(t *testing.T) {
	for n := int64(0); n <= 0xFFFFFF; n++ {
		if n > 0x11FFFF && n%257 != 0 && n != 0xFFFFFF {
			continue
		}
		for width := len(strconv.FormatInt(n, 16)); width <= 6; width++ {
			if width < 6 && n > 0x400 && n%61 != 0 {
				continue
			}
			s := fmt.Sprintf(`\u{%0*x}`, width, n)
			if !isValid(rune(n)) {
				checkBoth(t, s, api.ErrChar)
				continue
			}
			checkUnquote(t, `"`+s+`"`, string(rune(n)), len(s)+2, api.OK)
			checkRune(t, `'`+s+`'`, rune(n), len(s)+2, api.OK)
		}
	}
	for _, r := range edges {
		s := fmt.Sprintf(`\u{%x}`, r)
		checkUnquote(t, `"a`+s+s+`b"`, "a"+string(r)+string(r)+"b", 2*len(s)+4, api.OK)
	}
}

func TestP903PlainCharacters(t *testing.T) {
	eachCharacter(func(r rune) {
		s := string(r)
		switch {
		case r == '\n':
			checkUnquote(t, `"`+s+`"`, "", 0, api.ErrString)
		case r < 32:
			checkUnquote(t, `"`+s+`"`, "", 0, api.ErrChar)
		case r == '"':
			checkUnquote(t, `"`+s+`"`, "", 2, api.OK)
		case r == '\\':
			checkUnquote(t, `"`+s+`"`, "", 0, api.ErrString)
		default:
			checkUnquote(t, `"`+s+`"`, s, len(s)+2, api.OK)
		}
	})
}

func TestP903P904Reference(t *testing.T) {
	parts := []string{`"`, `'`, `\`, `u`, `{`, `}`, `0`, `d`, `n`, "\n", "\x01", "\xff"}
	eachText(parts, 4, func(s string) {
		checkReference(t, s)
		checkReference(t, `"`+s)
		checkReference(t, `'`+s)
	})
	eachText([]string{`0`, `1`, `d`, `f`, `8`, `}`, `"`, `'`, `\`}, 5, func(s string) {
		checkReference(t, `"\u{`+s)
		checkReference(t, `'\u{`+s)
	})
	for a := range 256 {
		for b := range 256 {
			s := string([]byte{byte(a), byte(b)})
			checkReference(t, s)
			checkReference(t, `"`+s+`"`)
			checkReference(t, `'`+s+`'`)
			checkReference(t, `"\`+s+`"`)
			checkReference(t, `'\`+s+`'`)
		}
	}
}

func TestP903FirstErrorDecides(t *testing.T) {
	faults := []struct {
		s string
		e api.Errno
	}{{"\n", api.ErrString}, {"\\\n", api.ErrString}, {"\\u{1\n", api.ErrString}, {"\x01", api.ErrChar}, {"\xff", api.ErrChar}, {`\q`, api.ErrChar}, {`\u{d800}`, api.ErrChar}, {`\u{}`, api.ErrChar}}
	for _, a := range faults {
		for _, b := range faults {
			checkUnquote(t, `"`+a.s+b.s, "", 0, a.e)
			checkUnquote(t, `"`+a.s+b.s+`"`, "", 0, a.e)
			checkUnquote(t, `"x`+a.s+"y"+b.s+`"`, "", 0, a.e)
			checkRune(t, `'`+a.s+b.s+`'`, 0, 0, a.e)
		}
		checkUnquote(t, `"x"`+a.s, "x", 3, api.OK)
		checkRune(t, `'x'`+a.s, 'x', 3, api.OK)
	}
}

func TestP904Examples(t *testing.T) {
	checkRune(t, `'ab'`, 0, 0, api.ErrString)
	checkRune(t, `''`, 0, 0, api.ErrString)
	checkRune(t, `'''`, 0, 0, api.ErrString)
	checkRune(t, `'a'`, 'a', 3, api.OK)
	checkRune(t, `'a' + 1`, 'a', 3, api.OK)
	checkRune(t, `'"'`, '"', 3, api.OK)
	checkRune(t, `'\"'`, '"', 4, api.OK)
	checkRune(t, `'\''`, '\'', 4, api.OK)
	checkRune(t, `'\\'`, '\\', 4, api.OK)
	checkRune(t, `'\n'`, '\n', 4, api.OK)
	checkRune(t, `'\t'`, '\t', 4, api.OK)
	checkRune(t, `'\r'`, '\r', 4, api.OK)
	checkRune(t, `'\u{0}'`, 0, 7, api.OK)
	checkRune(t, `'\u{00000a}'`, '\n', 12, api.OK)
	checkRune(t, `'😀'`, '😀', 6, api.OK)
	checkRune(t, "'\uFFFD'", 0xFFFD, 5, api.OK)
	checkRune(t, "'\x7f'", 127, 3, api.OK)
	checkRune(t, "'a'\xff", 'a', 3, api.OK)
}

func TestP904Errors(t *testing.T) {
	for _, s := range []string{"", "a", " 'a'", `"a"`, `"'"`, "\n", "\n'a'", "\x00'", "\xff'", "\xc2'a'", "é"} {
		checkRune(t, s, 0, 0, api.ErrString)
	}
	for _, s := range []string{``, `\`, `\u`, `\u{`, `\u{0`, `\u{110000`} {
		checkRune(t, `'`+s, 0, 0, api.ErrString)
		checkRune(t, `'`+s+"\n'", 0, 0, api.ErrString)
	}
	for _, s := range append([]string{"\x00", "\x01", "\t", "\r", "\x1f", `\q`, `\u{}`, `\u{d800}`, `\u{110000}`}, broken...) {
		for _, behind := range []string{"", `'`, "\n", "a'"} {
			checkRune(t, `'`+s+behind, 0, 0, api.ErrChar)
		}
	}
}

func TestP904BehindTheCharacter(t *testing.T) {
	characters := []string{`a`, `é`, `😀`, `"`, `\n`, `\\`, `\'`, `\u{41}`, "\uFFFD"}
	others := append([]string{"", "a", " ", "\n", "\r", "\x00", `"`, `\`, `\'`, `\q`, `\u{d800}`, "}", "é"}, broken...)
	for _, c := range characters {
		for _, other := range others {
			checkRune(t, `'`+c+other, 0, 0, api.ErrString)
			checkRune(t, `'`+c+other+`'`, map[bool]rune{true: []rune(meaning(c))[0]}[other == ""], map[bool]int{true: len(c) + 2}[other == ""], map[bool]api.Errno{false: api.ErrString}[other == ""])
		}
	}
	for a := range 256 {
		if a != '\'' {
			checkRune(t, "'x"+string([]byte{byte(a)})+"'", 0, 0, api.ErrString)
		}
	}
}

func TestP904PlainCharacters(t *testing.T) {
	eachCharacter(func(r rune) {
		s := string(r)
		switch {
		case r == '\n', r == '\'', r == '\\':
			checkRune(t, `'`+s+`'`, 0, 0, api.ErrString)
		case r < 32:
			checkRune(t, `'`+s+`'`, 0, 0, api.ErrChar)
		default:
			checkRune(t, `'`+s+`'`, r, len(s)+2, api.OK)
		}
	})
}

func TestP905(t *testing.T) {
	for r, want := range map[rune]string{
		39: `'\''`, 34: `'"'`, 127: `'\u{7f}'`, 'a': `'a'`, '\n': `'\n'`, '\t': `'\t'`, '\r': `'\r'`, '\\': `'\\'`, ' ': `' '`, 0: `'\u{0}'`, 9 + 6: `'\u{f}'`, 16: `'\u{10}'`, 31: `'\u{1f}'`,
		128: "'\u0080'", 0xE9: `'é'`, 0x1F600: `'😀'`, 0xFFFD: "'\uFFFD'", 0xD7FF: "'\uD7FF'", 0xE000: "'\uE000'", 0x10FFFF: "'\U0010FFFF'", 0xD800: "", 0xDFFF: "", 0x110000: "", -1: "",
	} {
		if got := ShowRune(r); got != want {
			t.Errorf("ShowRune(%d) = %s; want %s", r, got, want)
		}
	}
	for r := rune(-0x11000); r <= 0x130000; r++ {
		want := ""
		if isValid(r) {
			want = `'` + form(r, `'`) + `'`
		}
		if got := ShowRune(r); got != want {
			t.Errorf("ShowRune(%d) = %s; want %s", r, got, want)
		}
	}
}

func TestP906Strings(t *testing.T) {
	check := func(s, behind string) {
		t.Helper()
		literal := Quote(s)
		checkUnquote(t, literal+behind, s, len(literal), api.OK)
	}
	tails := []string{"", "a", `"`, `'`, `\`, "\n", "\xff", "\xbf", `" + 1`}
	eachCharacter(func(r rune) { check(string(r), tails[int(r)%len(tails)]) })
	for _, behind := range tails {
		for _, a := range edges {
			for _, b := range edges {
				check(string(a)+string(b), behind)
			}
		}
	}
	eachText([]string{"a", `"`, `'`, `\`, "u", "{", "0", "}", "\n", "\x00", "\x7f", "\uFFFD"}, 4, func(s string) { check(s, tails[len(s)%len(tails)]) })
	check("", "")
	check(strings.Repeat("\"\\\n😀", 1<<16), `"`)
}

func TestP906Characters(t *testing.T) {
	tails := []string{"", "a", `"`, `'`, `\`, "\n", "\xff", "\xbf", `' + 1`}
	check := func(r rune, behind string) {
		t.Helper()
		literal := ShowRune(r)
		checkRune(t, literal+behind, r, len(literal), api.OK)
	}
	eachCharacter(func(r rune) { check(r, tails[int(r)%len(tails)]) })
	for _, behind := range tails {
		for _, r := range edges {
			check(r, behind)
		}
	}
}
