package token

import (
	"fmt"
	"math"
	"math/big"
	"regexp"
	"slices"
	"strconv"
	"strings"
	"testing"
	"unicode/utf8"

	"arraylang/api"
)

// functions and operators are the names of the primitives, and others the further reserved words, as the document lists them.
const (
	functions = `+ - * % | ^ min max < <= = ~= >= > and or not shape reshape tally depth , stack iota take drop first reverse rotate transpose ` +
		`from pick select amend up down sort find in unique where copy expand cut encode decode box open same kind ord chr format left right`
	operators = `/ \ each swap outer inner atop over rank power stencil`
	others    = `X Y F G self arg`
)

// texts are the symbols that are not words, as the chapter lists them.
const texts = `+ - * % | ^ < <= = ~= >= > , / \ ( ) { } : <-`

// reservedList returns all that is reserved.
func reservedList() []string {
	return strings.Fields(functions + " " + operators + " " + others)
}

func number(at, length, n int) api.Token {
	return api.Token{Kind: api.TNumber, At: at, Len: length, Num: n}
}

func char(at, length, n int) api.Token {
	return api.Token{Kind: api.TChar, At: at, Len: length, Num: n}
}

func text(at, length int, s string) api.Token {
	return api.Token{Kind: api.TString, At: at, Len: length, Text: s}
}

func name(at int, s string) api.Token {
	return api.Token{Kind: api.TName, At: at, Len: len(s), Text: s}
}

func symbol(at int, s string) api.Token {
	return api.Token{Kind: api.TSymbol, At: at, Len: len(s), Text: s}
}

func newline(at int) api.Token {
	return api.Token{Kind: api.TBreak, At: at, Len: 1}
}

// checkTokens checks that Scan returns exactly these tokens.
func checkTokens(t *testing.T, s string, want ...api.Token) {
	t.Helper()
	got, fault := Scan(s)
	if !slices.Equal(got, want) || !isZero(fault) {
		t.Errorf("Scan(%s) = %+v, %+v; want %+v", shown(s), got, fault, want)
	}
}

// checkFault checks that Scan returns exactly this fault, and no tokens.
func checkFault(t *testing.T, s string, e api.Errno, at int) {
	t.Helper()
	got, fault := Scan(s)
	if len(got) != 0 || fault.Kind != e || fault.At != at || fault.Name != "" || len(fault.Left)+len(fault.Right) != 0 {
		t.Errorf("Scan(%s) = %+v, %+v; want error %d at %d", shown(s), got, fault, e, at)
	}
}

// checkReference checks that Scan returns what the reference returns.
func checkReference(t *testing.T, s string) {
	t.Helper()
	want, e, at := reference(s)
	if e != api.OK {
		checkFault(t, s, e, at)
		return
	}
	checkTokens(t, s, want...)
}

func checkShow(t *testing.T, want string, l ...api.Token) {
	t.Helper()
	if got := Show(l); got != want {
		t.Errorf("Show(%+v) = %s; want %s", l, shown(got), shown(want))
	}
}

// shown returns s as it is shown in a message.
func shown(s string) string {
	if len(s) > 200 {
		return strconv.QuoteToASCII(s[:200]) + "... (" + strconv.Itoa(len(s)) + " bytes)"
	}
	return strconv.QuoteToASCII(s)
}

func isZero(f api.Fault) bool {
	return f.Kind == api.OK && f.At == 0 && f.Left == nil && f.Right == nil && f.Name == ""
}

// The reference finds tokens by regular expressions, one for each form that the chapter names.
var (
	separators = regexp.MustCompile(`^(?:[ \t\r]|#[^\n]*)*`)
	numbers    = regexp.MustCompile(`^_?[0-9]+`)
	badNumbers = regexp.MustCompile(`^_?[0-9]+[A-Za-z_]`)
	words      = regexp.MustCompile(`^[A-Za-z][A-Za-z0-9]*`)
	lowerWords = regexp.MustCompile(`^[a-z][a-z0-9]*$`)
	inLiterals = map[byte]*regexp.Regexp{
		'\'': regexp.MustCompile(`^(?:[^\x00-\x1f\\']|\\[ntr\\'"]|\\u\{[0-9a-f]{1,6}\})`),
		'"':  regexp.MustCompile(`^(?:[^\x00-\x1f\\"]|\\[ntr\\'"]|\\u\{[0-9a-f]{1,6}\})`),
	}
)

// reference returns the tokens of s, or the error of the first fault and its offset, by the words of the chapter.
func reference(s string) ([]api.Token, api.Errno, int) {
	if len(s) > api.MaxText {
		return nil, api.ErrLong, 0
	}
	var list []api.Token
	at := 0
	for {
		at += len(separators.FindString(s[at:]))
		if at == len(s) {
			return list, api.OK, 0
		}
		token, e, offset := referenceToken(s, at)
		if e != api.OK {
			return nil, e, offset
		}
		if len(list) == api.MaxToks {
			return nil, api.ErrLimit, at
		}
		token.At = at
		list, at = append(list, token), at+token.Len
	}
}

// referenceToken returns the token that begins at the offset at, or the error there.
func referenceToken(s string, at int) (api.Token, api.Errno, int) {
	rest := s[at:]
	switch word := words.FindString(rest); {
	case strings.ContainsRune("\n;", rune(rest[0])):
		return newline(0), api.OK, 0
	case strings.ContainsRune("_0123456789", rune(rest[0])):
		return referenceNumber(rest, at)
	case slices.Contains(reservedList(), word):
		return symbol(0, word), api.OK, 0
	case word != "" && !lowerWords.MatchString(word):
		return api.Token{}, api.ErrToken, at
	case len(word) > api.MaxName:
		return api.Token{}, api.ErrName, at
	case word != "":
		return name(0, word), api.OK, 0
	case rest[0] == '\'' || rest[0] == '"':
		return referenceLiteral(s, at)
	}
	longest := ""
	for _, text := range strings.Fields(texts) {
		if strings.HasPrefix(rest, text) && len(text) > len(longest) {
			longest = text
		}
	}
	if longest == "" {
		return api.Token{}, api.ErrToken, at
	}
	return symbol(0, longest), api.OK, 0
}

func referenceNumber(rest string, at int) (api.Token, api.Errno, int) {
	digits := numbers.FindString(rest)
	if digits == "" || badNumbers.MatchString(rest) {
		return api.Token{}, api.ErrNumber, at
	}
	n, _ := new(big.Int).SetString(strings.Replace(digits, "_", "-", 1), 10)
	if new(big.Int).Abs(n).Cmp(big.NewInt(api.MaxNum)) > 0 {
		return api.Token{}, api.ErrNumber, at
	}
	return number(0, len(digits), int(n.Int64())), api.OK, 0
}

func referenceLiteral(s string, start int) (api.Token, api.Errno, int) {
	quote, at, characters := s[start], start+1, ""
	for count := 0; ; count++ {
		switch {
		case at == len(s) || s[at] == '\n':
			return api.Token{}, api.ErrString, start
		case s[at] == quote && quote == '"':
			return text(0, at+1-start, characters), api.OK, 0
		case s[at] == quote && count == 1:
			c, _ := utf8.DecodeRuneInString(characters)
			return char(0, at+1-start, int(c)), api.OK, 0
		case s[at] == quote, quote == '\'' && count == 1:
			return api.Token{}, api.ErrChar, start
		}
		source := inLiterals[quote].FindString(s[at:])
		decoded, ok := referenceCharacter(source)
		if !ok {
			return api.Token{}, api.ErrChar, at
		}
		at, characters = at+len(source), characters+decoded
	}
}

// referenceCharacter returns what a plain character or an escape stands for.
func referenceCharacter(source string) (string, bool) {
	if digits, ok := strings.CutPrefix(source, `\u{`); ok {
		n, err := strconv.ParseUint(strings.TrimSuffix(digits, "}"), 16, 64)
		return string(rune(n)), err == nil && n <= 0x10FFFF && !(0xD800 <= n && n <= 0xDFFF)
	}
	if escape, ok := strings.CutPrefix(source, `\`); ok {
		return map[string]string{"n": "\n", "t": "\t", "r": "\r"}[escape] + strings.Trim(escape, "ntr"), true
	}
	return source, source != "" && utf8.ValidString(source)
}

// referenceShow returns what the chapter says that Show returns.
func referenceShow(l []api.Token) string {
	var parts []string
	for _, token := range l {
		part := ""
		switch {
		case token.Kind == api.TNumber && -api.MaxNum <= token.Num && token.Num <= api.MaxNum:
			part = strings.Replace(strconv.Itoa(token.Num), "-", "_", 1)
		case token.Kind == api.TChar && 0 <= token.Num && token.Num <= 0x10FFFF && !(0xD800 <= token.Num && token.Num <= 0xDFFF):
			part = "'" + referenceShort(rune(token.Num), '\'') + "'"
		case token.Kind == api.TString && utf8.ValidString(token.Text):
			part = `"`
			for _, c := range token.Text {
				part += referenceShort(c, '"')
			}
			part += `"`
		case token.Kind == api.TName, token.Kind == api.TSymbol:
			part = token.Text
		case token.Kind == api.TBreak:
			part = ";"
		}
		parts = append(parts, part)
	}
	return strings.Join(parts, " ")
}

func referenceShort(c, quote rune) string {
	if short, ok := map[rune]string{quote: `\` + string(quote), 92: `\\`, 10: `\n`, 9: `\t`, 13: `\r`}[c]; ok {
		return short
	}
	if c < 32 || c == 127 {
		return fmt.Sprintf(`\u{%x}`, c)
	}
	return string(c)
}

// allOf returns all concatenations of at most size of the parts, the shorter ones first.
func allOf(size int, parts ...string) []string {
	list := []string{""}
	last := list
	for range size {
		var next []string
		for _, s := range last {
			for _, part := range parts {
				next = append(next, s+part)
			}
		}
		list, last = append(list, next...), next
	}
	return list
}

// good returns texts without a fault.
func good() []string {
	return append([]string{
		"", " ", "\t\r ", "#", "# no tokens", "\n", ";", "\n;\n", "x", "x <- _12", "avg <- +/ % tally\navg 1 2 6", "{Y < 2 : 1; Y * self Y - 1} 5",
		"1 2 3 + 2 3 reshape 10", "twice <- {F F Y}; - twice 3", "1 2 * outer 1 2 3", "(+/ % tally) 1 2 3 4", "a#b\nc", "a # 'x", "a # \"\nb",
		`"ab" , 'c'`, `"" "a" ""`, `"\n\t\r\\\'\"\u{7}\u{0}"`, `'\'' '"' '\"' "'"`, `'é' "日本" '😀'`, "0 _0 007 _007", "4611686018427387903 _4611686018427387903",
		"a_1", "x1 X Y F G self arg selfx args", "<=-=~=>=<-<", `\\/|^,+-*%:(){}<>=`, "a;b\nc;;\n\nd", "1+2*3<-4", "a'b'c\"d\"e", "#\n#\n",
		`"\u{10ffff}\u{d7ff}\u{e000}\u{000041}"`, "\"\u007f\u0085\u2028\ufffd\"", strings.Repeat("z", api.MaxName), "1 2;3", "a <- 1;a",
	}, strings.Fields(texts+" "+functions+" "+operators+" "+others)...)
}

// bad returns texts that begin with a fault, with its error.
func bad() map[string]api.Errno {
	return map[string]api.Errno{
		"_": api.ErrNumber, "__1": api.ErrNumber, "1a": api.ErrNumber, "1_": api.ErrNumber, "4611686018427387904": api.ErrNumber, "_x": api.ErrNumber, "1X": api.ErrNumber,
		strings.Repeat("z", api.MaxName+1): api.ErrName, "Z": api.ErrToken, "xX": api.ErrToken, "XY": api.ErrToken, "Self": api.ErrToken,
		`"`: api.ErrString, `"ab`: api.ErrString, `'`: api.ErrString, `'a`: api.ErrString, "\"\n\"": api.ErrString, "'\n'": api.ErrString, "'a\n'": api.ErrString,
		"''": api.ErrChar, "'ab'": api.ErrChar, "'''": api.ErrChar, `'a"`: api.ErrChar, "'a ": api.ErrChar,
		"~": api.ErrToken, "~~": api.ErrToken, ".": api.ErrToken, "[": api.ErrToken, "\x00": api.ErrToken, "é": api.ErrToken, "\xff": api.ErrToken, "\u00a0": api.ErrToken,
	}
}

// strange returns tokens that Scan does not return, most of them with something wrong.
func strange() []api.Token {
	list := []api.Token{{}, {Text: "x", Num: 5}, {Kind: -1, Text: "x"}, {Kind: 7, Text: "x"}, {Kind: math.MaxInt, Num: 1}, {Kind: math.MinInt}, {Kind: 1<<32 + 4, Text: "x"}}
	for kind := api.TokenKind(0); kind <= 7; kind++ {
		for _, n := range []int{0, 1, -1, 65, -65, api.MaxNum, api.MaxNum + 1, -api.MaxNum, -api.MaxNum - 1, math.MaxInt, math.MinInt, 0xD7FF, 0xD800, 0xDFFF, 0xE000, api.MaxRune, api.MaxRune + 1, 1 << 32, 1<<32 + 65, -1<<32 + 65} {
			for _, s := range []string{"", "x", "\"", "\xff", "a\xc3", "\xed\xa0\x80", " ", "\n"} {
				list = append(list, api.Token{Kind: kind, At: n, Len: n, Num: n, Text: s})
			}
		}
	}
	return list
}

// callAll calls every function with the arguments, and returns all results as text.
func callAll(s string, l []api.Token) string {
	tokens, fault := Scan(s)
	return fmt.Sprint(tokens, fault, Show(l), Reserved(s))
}

func TestP801Pure(t *testing.T) {
	for _, s := range good() {
		list, _ := Scan(s)
		list = append(list, strange()[:20]...)
		before := slices.Clone(list)
		results := callAll(s, list)
		if !slices.Equal(list, before) {
			t.Errorf("Show changes %v to %v", before, list)
		}
		if again := callAll(s, list); again != results {
			t.Errorf("the calls for %s return %s, then %s", shown(s), results, again)
		}
	}
}

// A call that kept something of an earlier one would return something else after other calls.
func TestP801NoState(t *testing.T) {
	list := good()
	for s := range bad() {
		list = append(list, s, "a "+s)
	}
	var first []string
	for _, s := range list {
		first = append(first, callAll(s, strange()))
	}
	for i := len(list) - 1; i >= 0; i-- {
		if got := callAll(list[i], strange()); got != first[i] {
			t.Errorf("the calls for %s return %s, then %s", shown(list[i]), first[i], got)
		}
	}
}

// Whoever changes the tokens of one call must not change those of another one.
func TestP801OwnMemory(t *testing.T) {
	for _, s := range good() {
		first, _ := Scan(s)
		want := slices.Clone(first)
		for i := range first {
			first[i] = api.Token{Text: "changed"}
		}
		_ = append(first, api.Token{Text: "added"})
		checkTokens(t, s, want...)
	}
}

// Every exported call must return for all arguments; a panic fails the test.
func TestP801AllArguments(t *testing.T) {
	for _, token := range strange() {
		Reserved(token.Text)
		Scan(token.Text)
		if got, want := Show([]api.Token{token}), referenceShow([]api.Token{token}); got != want {
			t.Errorf("Show of %#v = %s; want %s", token, shown(got), shown(want))
		}
	}
	for _, s := range []string{strings.Repeat("\xff", api.MaxText), strings.Repeat("\"", 1<<20), strings.Repeat("\\", 1<<20), "'\\u{" + strings.Repeat("f", 65000), "\"" + strings.Repeat("\x80", 65000)} {
		if tokens, fault := Scan(s); tokens != nil || fault.Kind == api.OK {
			t.Errorf("Scan(%s) = %v, %v", shown(s), tokens, fault)
		}
		Reserved(s)
	}
}

func TestP802Examples(t *testing.T) {
	checkTokens(t, "x <- _12", name(0, "x"), symbol(2, "<-"), number(5, 3, -12))
	checkFault(t, "'ab'", api.ErrChar, 0)
	checkFault(t, "12a", api.ErrNumber, 0)
	checkFault(t, `"a`, api.ErrString, 0)
	checkTokens(t, "2 * 3 + iota 4", number(0, 1, 2), symbol(2, "*"), number(4, 1, 3), symbol(6, "+"), symbol(8, "iota"), number(13, 1, 4))
	checkTokens(t, "{Y<2:1;Y}\n", symbol(0, "{"), symbol(1, "Y"), symbol(2, "<"), number(3, 1, 2), symbol(4, ":"), number(5, 1, 1), newline(6), symbol(7, "Y"), symbol(8, "}"), newline(9))
	checkTokens(t, `'\u{e9}'"é\n"#"`, char(0, 8, 233), text(8, 6, "é\n"))
	checkTokens(t, "avg <- +/ % tally", name(0, "avg"), symbol(4, "<-"), symbol(7, "+"), symbol(8, "/"), symbol(10, "%"), symbol(12, "tally"))
}

func TestP802Separators(t *testing.T) {
	for _, s := range []string{"", " ", "\t", "\r", " \t\r\r\t ", "#", "##", "# a", "#'", "#\"", " # \x00\xff\xc3 é ; _ \r\t#", "#" + strings.Repeat("~", 30000)} {
		checkTokens(t, s)
		checkTokens(t, s+"\n"+s, newline(len(s)))
	}
	checkTokens(t, "a \t\r b", name(0, "a"), name(5, "b"))
	checkTokens(t, "1#2\n3", number(0, 1, 1), newline(3), number(4, 1, 3))
	checkTokens(t, "x#;\n;", name(0, "x"), newline(3), newline(4))
	checkTokens(t, "a\r\nb", name(0, "a"), newline(2), name(3, "b"))
	checkTokens(t, "a# \rb\nc", name(0, "a"), newline(5), name(6, "c"))
	// Within a literal nothing separates and nothing is a comment.
	checkTokens(t, `" #; " '#' ' ' ';'`, text(0, 6, " #; "), char(7, 3, '#'), char(11, 3, ' '), char(15, 3, ';'))
	// Other blanks separate nothing.
	for _, s := range []string{"\v", "\f", "\u0085", "\u00a0", "\u2028", "\ufeff", "\x00", "\x1f", "\x7f"} {
		checkFault(t, "a"+s+"b", api.ErrToken, 1)
	}
}

func TestP802Breaks(t *testing.T) {
	checkTokens(t, "\n", newline(0))
	checkTokens(t, ";", newline(0))
	checkTokens(t, "\n;\n", newline(0), newline(1), newline(2))
	checkTokens(t, " ; \n", newline(1), newline(3))
	checkTokens(t, "a;b\nc", name(0, "a"), newline(1), name(2, "b"), newline(3), name(4, "c"))
}

func TestP802Numbers(t *testing.T) {
	for n := range 10 {
		checkTokens(t, strconv.Itoa(n), number(0, 1, n))
		checkTokens(t, "_"+strconv.Itoa(n), number(0, 2, -n))
	}
	checkTokens(t, "0123456789", number(0, 10, 123456789))
	checkTokens(t, "_000", number(0, 4, 0))
	checkTokens(t, "_0012", number(0, 5, -12))
	checkTokens(t, "4611686018427387903", number(0, 19, api.MaxNum))
	checkTokens(t, "_4611686018427387903", number(0, 20, -api.MaxNum))
	checkTokens(t, strings.Repeat("0", 60000)+"4611686018427387903", number(0, 60019, api.MaxNum))
	checkTokens(t, " 1 _2", number(1, 1, 1), number(3, 2, -2))
	checkTokens(t, "1-2", number(0, 1, 1), symbol(1, "-"), number(2, 1, 2))
	checkTokens(t, "1(2", number(0, 1, 1), symbol(1, "("), number(2, 1, 2))
	checkTokens(t, "1'a'2\"b\"3;4#5", number(0, 1, 1), char(1, 3, 'a'), number(4, 1, 2), text(5, 3, "b"), number(8, 1, 3), newline(9), number(10, 1, 4))
	// A number may follow a word directly if it is negative.
	checkTokens(t, "a_1", name(0, "a"), number(1, 2, -1))
	checkTokens(t, "iota_10", symbol(0, "iota"), number(4, 3, -10))
}

func TestP802ErrNumber(t *testing.T) {
	for _, s := range []string{
		"_", "_ 1", "__", "__1", "_a", "_X", "_-1", "_'1'", "_\n1", "_#", "_\xff", "_é",
		"1a", "1z", "1A", "1Z", "1X", "1_", "1_2", "1__", "12iota", "_1_", "_1_2", "_1a", "007x", "1min", "0x10", "1e5",
		"4611686018427387904", "_4611686018427387904", "9223372036854775807", "9223372036854775808", "_9223372036854775808", "18446744073709551617", "04611686018427387904",
		strings.Repeat("9", 1000), "_" + strings.Repeat("1", 1000), "9223372036854775808a", strings.Repeat("0", 100) + "a",
	} {
		checkFault(t, s, api.ErrNumber, 0)
		checkFault(t, "ab; "+s+" ~", api.ErrNumber, 4)
	}
	checkFault(t, "a__1", api.ErrNumber, 1)
	checkFault(t, "a_", api.ErrNumber, 1)
	// Only ASCII letters make a number wrong.
	checkFault(t, "1é", api.ErrToken, 1)
	checkFault(t, "1\xff", api.ErrToken, 1)
	checkFault(t, "1.5", api.ErrToken, 1)
	checkFault(t, "1١", api.ErrToken, 1)
	checkFault(t, "١", api.ErrToken, 0)
}

func TestP802Names(t *testing.T) {
	for c := 'a'; c <= 'z'; c++ {
		checkTokens(t, string(c), name(0, string(c)))
		checkTokens(t, "a"+string(c)+"9", name(0, "a"+string(c)+"9"))
	}
	checkTokens(t, "a0 z9 b0123456789", name(0, "a0"), name(3, "z9"), name(6, "b0123456789"))
	// A word is as long as possible, so what only contains a reserved word is a name.
	for _, s := range strings.Fields("selfs arg1 argx iota2 minmax xself x1 y each1 ins nots inn outers a selfself orr o r") {
		checkTokens(t, " "+s, name(1, s))
	}
	for size := range api.MaxName {
		checkTokens(t, strings.Repeat("q", size+1), name(0, strings.Repeat("q", size+1)))
	}
	checkTokens(t, "a"+strings.Repeat("0", 31)+"+", name(0, "a"+strings.Repeat("0", 31)), symbol(32, "+"))
}

func TestP802ErrName(t *testing.T) {
	for _, size := range []int{33, 34, 64, 255, 256, 288, 1000, 65536} {
		checkFault(t, strings.Repeat("q", size), api.ErrName, 0)
		checkFault(t, strings.Repeat("iota", size)[:size], api.ErrName, 0)
	}
	checkFault(t, "1 a"+strings.Repeat("9", 32), api.ErrName, 2)
	checkFault(t, "x "+strings.Repeat("a", 32)+"b ~", api.ErrName, 2)
	checkTokens(t, strings.Repeat("a", 32)+"_1", name(0, strings.Repeat("a", 32)), number(32, 2, -1))
}

// A word with an uppercase letter is wrong, whatever its length, unless it is one of the reserved letters.
func TestP802ErrTokenWords(t *testing.T) {
	for c := 'A'; c <= 'Z'; c++ {
		if strings.ContainsRune("XYFG", c) {
			checkTokens(t, string(c), symbol(0, string(c)))
			checkTokens(t, "1 "+string(c)+" 2", number(0, 1, 1), symbol(2, string(c)), number(4, 1, 2))
		} else {
			checkFault(t, string(c), api.ErrToken, 0)
		}
		for _, s := range []string{"a" + string(c), string(c) + "a", string(c) + "1", "a1" + string(c), string(c) + string(c), "iota" + string(c), strings.Repeat("a", 32) + string(c), string(c) + strings.Repeat("a", 40)} {
			checkFault(t, s, api.ErrToken, 0)
			checkFault(t, "(x "+s+" _", api.ErrToken, 3)
		}
	}
	for _, s := range strings.Fields("XX XY FG X1 F2 Self SELF ARG Iota Min EACH x1Y") {
		checkFault(t, s, api.ErrToken, 0)
	}
}

func TestP802ReservedWords(t *testing.T) {
	for _, s := range reservedList() {
		checkTokens(t, s, symbol(0, s))
		checkTokens(t, " "+s+"\n", symbol(1, s), newline(1+len(s)))
	}
}

func TestP802Symbols(t *testing.T) {
	list := strings.Fields(texts)
	for _, s := range list {
		checkTokens(t, s, symbol(0, s))
		checkTokens(t, "a"+s+"1", name(0, "a"), symbol(1, s), number(1+len(s), 1, 1))
		for _, other := range list {
			checkReference(t, s+other)
			for _, last := range list {
				checkReference(t, s+other+last)
			}
		}
	}
	checkTokens(t, "<--", symbol(0, "<-"), symbol(2, "-"))
	checkTokens(t, "<=-", symbol(0, "<="), symbol(2, "-"))
	checkTokens(t, "<==", symbol(0, "<="), symbol(2, "="))
	checkTokens(t, "<<=", symbol(0, "<"), symbol(1, "<="))
	checkTokens(t, "=~==", symbol(0, "="), symbol(1, "~="), symbol(3, "="))
	checkTokens(t, ">==<", symbol(0, ">="), symbol(2, "="), symbol(3, "<"))
	checkTokens(t, "< -", symbol(0, "<"), symbol(2, "-"))
	checkTokens(t, "->", symbol(0, "-"), symbol(1, ">"))
	checkTokens(t, "=<", symbol(0, "="), symbol(1, "<"))
	checkTokens(t, "x<-1", name(0, "x"), symbol(1, "<-"), number(3, 1, 1))
	checkTokens(t, `+\/`, symbol(0, "+"), symbol(1, `\`), symbol(2, "/"))
	checkTokens(t, "::", symbol(0, ":"), symbol(1, ":"))
}

func TestP802ErrToken(t *testing.T) {
	for _, s := range []string{"~", "~ =", "~~=", "~a", "~\n", ".", "!", "$", "&", "?", "@", "[", "]", "`", "\x00", "\x01", "\x7f", "\x80", "\xff", "é", "×", "\u2028", "\ufeff", "ａ"} {
		checkFault(t, s, api.ErrToken, 0)
		checkFault(t, "1; "+s, api.ErrToken, 3)
		checkFault(t, "\"é\"+"+s+" _", api.ErrToken, 5)
	}
	checkFault(t, "=~", api.ErrToken, 1)
	checkFault(t, "aé", api.ErrToken, 1)
	checkFault(t, "<~=~", api.ErrToken, 3)
}

func TestP802PlainCharacters(t *testing.T) {
	for _, quote := range []string{"'", `"`} {
		for n := 32; n <= api.MaxRune; n++ {
			c := string(rune(n))
			if c == quote || c == `\` || 0xD800 <= n && n <= 0xDFFF {
				continue
			}
			s := quote + c + quote
			if quote == "'" {
				checkTokens(t, s, char(0, len(s), n))
			} else {
				checkTokens(t, s, text(0, len(s), c))
			}
		}
	}
	checkTokens(t, `"'" '"' ""`, text(0, 3, "'"), char(4, 3, '"'), text(8, 2, ""))
	checkTokens(t, `"a""b"`, text(0, 3, "a"), text(3, 3, "b"))
	checkTokens(t, "'a''b'", char(0, 3, 'a'), char(3, 3, 'b'))
	checkTokens(t, `'\'''a'`, char(0, 4, '\''), char(4, 3, 'a'))
}

func TestP802Escapes(t *testing.T) {
	for escape, n := range map[string]int{`\n`: 10, `\t`: 9, `\r`: 13, `\\`: 92, `\'`: 39, `\"`: 34} {
		checkTokens(t, "'"+escape+"'", char(0, 4, n))
		checkTokens(t, `"`+escape+`"`, text(0, 4, string(rune(n))))
		checkTokens(t, `"a`+escape+escape+`b"`, text(0, 8, "a"+string(rune(n))+string(rune(n))+"b"))
		// Behind an escape the closing quote is still missing.
		checkFault(t, "'"+escape, api.ErrString, 0)
		checkFault(t, `"`+escape, api.ErrString, 0)
	}
	for c := range 256 {
		s := string([]byte{'\\', byte(c)})
		if strings.ContainsRune(`ntr\'"`, rune(c)) {
			continue
		}
		checkFault(t, "'"+s+"'", api.ErrChar, 1)
		checkFault(t, `"`+s+`"`, api.ErrChar, 1)
		checkFault(t, `x "éa`+s, api.ErrChar, 6)
	}
	checkFault(t, `"\\\`, api.ErrChar, 3)
	checkFault(t, `'\`, api.ErrChar, 1)
	checkFault(t, "\"\\\n\"", api.ErrChar, 1)
	checkFault(t, "'\\\n'", api.ErrChar, 1)
	checkFault(t, "\"ab\\", api.ErrChar, 3)
}

func TestP802CodePoints(t *testing.T) {
	for n := 0; n <= 0xFFFFFF; n++ {
		// Of the numbers that are surely too great some are enough.
		if n > 0x111000 && n%4099 != 0 && n != 0xFFFFFF {
			continue
		}
		escape := `\u{` + strconv.FormatInt(int64(n), 16) + "}"
		if n > api.MaxRune || 0xD800 <= n && n <= 0xDFFF {
			checkFault(t, "'"+escape+"'", api.ErrChar, 1)
			checkFault(t, `"x`+escape, api.ErrChar, 2)
			continue
		}
		checkTokens(t, "'"+escape+"'", char(0, len(escape)+2, n))
		if n%17 == 0 {
			checkTokens(t, `"`+escape+`x"`, text(0, len(escape)+3, string(rune(n))+"x"))
		}
	}
	for i, digits := range strings.Fields("41 041 0041 00041 000041") {
		checkTokens(t, `'\u{`+digits+`}'`, char(0, 8+i, 'A'))
		checkTokens(t, `"\u{`+digits+`}"`, text(0, 8+i, "A"))
	}
	checkTokens(t, `'\u{0}' '\u{000000}'`, char(0, 7, 0), char(8, 12, 0))
	checkTokens(t, `'\u{abcde}' '\u{fedcb}' "\u{27}\u{22}\u{5c}"`, char(0, 11, 0xabcde), char(12, 11, 0xfedcb), text(24, 20, `'"\`))
}

func TestP802ErrCharEscapes(t *testing.T) {
	for _, escape := range []string{
		`\u`, `\u{`, `\u{}`, `\u{4`, `\u{41`, `\u4}`, `\u41`, `\u{4g}`, `\u{g}`, `\u{A}`, `\u{4A}`, `\u{F}`, `\u{-1}`, `\u{+1}`, `\u{_1}`, `\u{1_0}`, `\u{ 41}`, `\u{41 }`, `\u{4 1}`, `\u{0x41}`,
		`\u{0000041}`, `\u{0000000}`, `\u{1000041}`, `\u{10000000000000041}`, `\u{100000041}`, `\u{110000}`, `\u{ffffff}`, `\u{d800}`, `\u{dfff}`, `\u{00d800}`, `\u(41)`, `\u[41]`, `\U{41}`, `\u{{41}}`,
		`\x41`, `\0`, `\a`, `\e`, `\N`, `\ n`, `\é`, `\/`, `\{`, `\#`, `\;`, "\\\xff", "\\\x00", "\\\t", "\\\r", "\\u{4\xff}", "\\u{é}", "\\u\n", "\\u{\n", "\\u{4\n}", "\\u{4\x01}",
	} {
		for _, behind := range []string{"", "'", `"`, "x", "\n", `'"`, `"'`, "}'", `}"`} {
			if strings.HasSuffix(escape, `\u{41`) && strings.HasPrefix(behind, "}") || strings.HasSuffix(escape, `\u{4`) && strings.HasPrefix(behind, "}") {
				continue
			}
			checkFault(t, "'"+escape+behind, api.ErrChar, 1)
			checkFault(t, `"`+escape+behind, api.ErrChar, 1)
			checkFault(t, `+ "a\n`+escape+behind, api.ErrChar, 6)
		}
	}
}

func TestP802ErrCharBytes(t *testing.T) {
	wrong := []string{"\x80", "\xbf", "\xc0\x80", "\xc1\xbf", "\xc3", "\xe2\x82", "\xe0\x80\x80", "\xed\xa0\x80", "\xed\xbf\xbf", "\xf0\x80\x80\x80", "\xf0\x9f\x98", "\xf4\x90\x80\x80", "\xf5\x80\x80\x80", "\xff", "\xfe"}
	for c := range 32 {
		if c != '\n' {
			wrong = append(wrong, string(rune(c)))
		}
	}
	for _, s := range wrong {
		for _, behind := range []string{"", "a", "'", `"`, "\n", `\`} {
			checkFault(t, "'"+s+behind, api.ErrChar, 1)
			checkFault(t, `"`+s+behind, api.ErrChar, 1)
			checkFault(t, ` "é\u{e9}`+s+behind, api.ErrChar, 10)
		}
	}
	// The encoding of the character that stands for wrong bytes is right.
	checkTokens(t, "'\ufffd'", char(0, 5, 0xFFFD))
	checkTokens(t, "\"a\ufffd\"", text(0, 6, "a\ufffd"))
}

func TestP802ErrString(t *testing.T) {
	for _, s := range []string{`"`, `"a`, `"'`, `"é`, `"\"`, `"\\\"`, `"a b;c#d`, `'`, `'a`, `'é`, `'"`, `'\'`, `'\n`, `'\u{41}`, `'#`, `';`} {
		for _, behind := range []string{"", "\n", "\n\"", "\n'", "\n~", "\n\x00"} {
			checkFault(t, s+behind, api.ErrString, 0)
			checkFault(t, "x;\n "+s+behind, api.ErrString, 4)
		}
	}
	checkFault(t, `"a" "`, api.ErrString, 4)
	checkFault(t, `'a'b'`, api.ErrString, 4)
	checkFault(t, `"\u{4}`, api.ErrString, 0)
	checkFault(t, "\"a\r\n\"", api.ErrChar, 2)
	checkFault(t, "'\r\n'", api.ErrChar, 1)
}

// A character literal holds one character, and no error of what follows that character comes before this one.
func TestP802ErrCharQuote(t *testing.T) {
	for _, s := range []string{"''", "'''", "''a", "''\n", "''\xff", "'' '"} {
		checkFault(t, s, api.ErrChar, 0)
		checkFault(t, "1 "+s, api.ErrChar, 2)
	}
	for _, c := range []string{"a", "é", "😀", `"`, " ", `\'`, `\"`, `\\`, `\n`, `\u{0}`, `\u{10ffff}`} {
		for _, behind := range []string{"b'", "b", "\"", " '", " ", "\t", "\r", "\x00'", "\xff'", "\xff", `\`, `\'`, `\q'`, `\u{`, "é'", "bc'", "#", ";"} {
			checkFault(t, "'"+c+behind, api.ErrChar, 0)
			checkFault(t, "\n'"+c+behind, api.ErrChar, 1)
		}
	}
}

func TestP802AllBytes(t *testing.T) {
	for c := range 256 {
		checkReference(t, string([]byte{byte(c)}))
		checkReference(t, "a"+string([]byte{byte(c)})+"1")
		for d := range 256 {
			checkReference(t, string([]byte{byte(c), byte(d)}))
			checkReference(t, string([]byte{'"', byte(c), byte(d), '"'}))
			checkReference(t, string([]byte{'\'', byte(c), '\'', byte(d), '\''}))
		}
	}
}

func TestP802AllTexts(t *testing.T) {
	for _, s := range allOf(4, "a", "X", "Z", "1", "_", "<", "=", "-", "~", "'", `"`, `\`, "#", " ", "\n", ";", "(", "é", "\xff") {
		checkReference(t, s)
	}
}

func TestP802AllLiterals(t *testing.T) {
	for _, s := range allOf(6, "'", `\`, "u", "{", "}", "4", "n", "\n") {
		checkReference(t, "'"+s)
		checkReference(t, `"`+strings.ReplaceAll(s, "'", `"`))
	}
	for _, s := range allOf(5, `\u{`, `\`, "}", "0", "d8", "é", "'", `"`) {
		checkReference(t, "'"+s+"'")
		checkReference(t, `"`+s+`"`)
	}
}

func TestP802AllWords(t *testing.T) {
	for _, s := range reservedList() {
		for i := range len(s) + 1 {
			for _, part := range []string{"", "a", "x", "0", "X", "Q", "_", "-", "=", " ", "\n", "é"} {
				checkReference(t, s[:i]+part+s[i:])
				checkReference(t, part+s[:i])
				checkReference(t, s[i:]+part)
			}
		}
		for _, other := range reservedList() {
			checkReference(t, s+other)
		}
	}
}

func TestP802ErrLong(t *testing.T) {
	checkTokens(t, strings.Repeat(" ", api.MaxText))
	checkTokens(t, strings.Repeat(" ", api.MaxText-1)+"x", name(api.MaxText-1, "x"))
	checkTokens(t, `"`+strings.Repeat("é", api.MaxText/2-1)+`"`, text(0, api.MaxText, strings.Repeat("é", api.MaxText/2-1)))
	for _, s := range []string{strings.Repeat(" ", api.MaxText), strings.Repeat("+", api.MaxText), strings.Repeat("~", api.MaxText), strings.Repeat("é", api.MaxText/2), "\"" + strings.Repeat("\n", api.MaxText-1)} {
		for _, more := range []string{" ", "\n", "a", "\x00", "\xff", "   ", s} {
			checkFault(t, s+more, api.ErrLong, 0)
		}
	}
}

func TestP802ErrLimit(t *testing.T) {
	for _, part := range []string{"+", "1 ", "\n", ";", "a ", `""`, "X ", "'a'", "<=", " :", "#\n"} {
		most := strings.Repeat(part, api.MaxToks)
		if tokens, fault := Scan(most); len(tokens) != api.MaxToks || !isZero(fault) {
			t.Errorf("Scan of %d times %q returns %d tokens and %v", api.MaxToks, part, len(tokens), fault)
		}
		space := api.MaxText - len(most)
		for _, more := range []string{"", " ", "#", "# a", "\t\r"} {
			if len(more) > space {
				continue
			}
			if tokens, fault := Scan(most + more); len(tokens) != api.MaxToks || !isZero(fault) {
				t.Errorf("Scan of %d times %q and %q returns %d tokens and %v", api.MaxToks, part, more, len(tokens), fault)
			}
		}
		for _, more := range []string{"=", "1", "a", "X", "\n", ";", `""`, "'a'", "1~", "+_", "a\x00", "; \"", strings.Repeat("/", 100)} {
			if len(more) > space {
				continue
			}
			checkFault(t, most+more, api.ErrLimit, len(most))
			if 2+len(more) <= space {
				checkFault(t, most+" \r"+more, api.ErrLimit, len(most)+2)
			}
		}
	}
}

// The token beyond the limit has its own error before that of the limit, but no later token has.
func TestP802ErrLimitOwnError(t *testing.T) {
	most := strings.Repeat("1;", api.MaxToks/2)
	for s, e := range bad() {
		checkFault(t, most+s, e, len(most))
		checkFault(t, most+" #\n"+s, api.ErrLimit, len(most)+2)
		checkFault(t, most+"+ "+s, api.ErrLimit, len(most))
	}
	checkFault(t, most+`"ab\q"`, api.ErrChar, len(most)+3)
	checkFault(t, most[2:]+";;"+`"ab\q"`, api.ErrChar, len(most)+3)
}

// The fault is that of the first wrong token, whatever follows it.
func TestP802FirstFault(t *testing.T) {
	for s, e := range bad() {
		for _, before := range good() {
			// What follows the text before must not belong to its last token or comment.
			checkFault(t, before+"\n"+s, e, len(before)+1)
		}
		for other := range bad() {
			checkFault(t, "a "+s+"\n"+other, e, 2)
			checkFault(t, s+"\n"+strings.Repeat(other+"\n", 3), e, 0)
		}
	}
}

func TestP802Good(t *testing.T) {
	for _, s := range good() {
		checkReference(t, s)
		if tokens, fault := Scan(s); fault.Kind != api.OK || len(strings.Fields(s)) == 0 != (len(tokens) == 0) && !strings.ContainsAny(s, "#\n") {
			t.Errorf("Scan(%s) = %v, %v", shown(s), tokens, fault)
		}
	}
	for s, e := range bad() {
		if _, want, at := reference(s); want != e || at != 0 {
			t.Errorf("the reference finds error %d at %d in %s; want %d", want, at, shown(s), e)
		}
	}
}

func TestP803Examples(t *testing.T) {
	checkShow(t, `"\"\u{7}"`, text(0, 0, "\"\a"))
	checkShow(t, "")
	checkShow(t, "x <- _12", name(0, "x"), symbol(9, "<-"), number(-5, 0, -12))
	checkShow(t, "1 ; _2 'a' \"b\" ( iota", number(0, 0, 1), newline(0), number(0, 0, -2), char(0, 0, 'a'), text(0, 0, "b"), symbol(0, "("), symbol(0, "iota"))
	checkShow(t, "0 4611686018427387903 _4611686018427387903", number(0, 0, 0), number(0, 0, api.MaxNum), number(0, 0, -api.MaxNum))
	checkShow(t, `'\'' '"' '\\' '\n' '\t' '\r' ' ' '~'`, char(0, 0, 39), char(0, 0, 34), char(0, 0, 92), char(0, 0, 10), char(0, 0, 9), char(0, 0, 13), char(0, 0, 32), char(0, 0, 126))
	checkShow(t, `'\u{0}' '\u{1}' '\u{1f}' '\u{7f}'`+" '\u0080' '\ufffd' '\U0010ffff'", char(0, 0, 0), char(0, 0, 1), char(0, 0, 31), char(0, 0, 127), char(0, 0, 128), char(0, 0, 0xFFFD), char(0, 0, api.MaxRune))
	checkShow(t, `"" "'" "\"" "\\" "\n\t\r" "\u{b}\u{c}\u{7f}" "日本"`, text(0, 0, ""), text(0, 0, "'"), text(0, 0, `"`), text(0, 0, `\`), text(0, 0, "\n\t\r"), text(0, 0, "\v\f\x7f"), text(0, 0, "日本"))
	checkShow(t, "; ;", newline(3), newline(4))
}

func TestP803NilIsEmpty(t *testing.T) {
	if Show(nil) != "" || Show([]api.Token{}) != "" {
		t.Errorf("Show of no tokens is %q and %q; want nothing", Show(nil), Show([]api.Token{}))
	}
}

func TestP803AllCharacters(t *testing.T) {
	for n := -2; n <= api.MaxRune+2; n++ {
		token := char(0, 0, n)
		checkShow(t, referenceShow([]api.Token{token}), token)
		if utf8.ValidRune(rune(n)) {
			token = text(0, 0, string(rune(n)))
			checkShow(t, referenceShow([]api.Token{token}), token)
		}
	}
}

// A token that can't be written has an empty text, but the blanks beside it remain.
func TestP803NoText(t *testing.T) {
	for _, token := range []api.Token{
		{}, {Kind: 7, Text: "x"}, {Kind: -1, Text: "x"}, {Kind: 0, Text: "x", Num: 1}, {Kind: 1<<32 + 4, Text: "x"}, {Kind: math.MaxInt, Num: 1}, {Kind: math.MinInt, Num: 1},
		number(0, 0, api.MaxNum+1), number(0, 0, -api.MaxNum-1), number(0, 0, math.MaxInt), number(0, 0, math.MinInt),
		char(0, 0, -1), char(0, 0, 0xD800), char(0, 0, 0xDBFF), char(0, 0, 0xDFFF), char(0, 0, api.MaxRune+1), char(0, 0, 1<<32+65), char(0, 0, -1<<32+65), char(0, 0, math.MaxInt), char(0, 0, math.MinInt), char(0, 0, 1<<32),
		text(0, 0, "\xff"), text(0, 0, "a\xc3"), text(0, 0, "\xed\xa0\x80"), text(0, 0, "ab\x80cd"), text(0, 0, "\xc0\x80"), name(0, ""), symbol(0, ""),
	} {
		checkShow(t, "", token)
		checkShow(t, " ", token, token)
		checkShow(t, "a  b", name(0, "a"), token, name(0, "b"))
		checkShow(t, " ;", token, newline(0))
	}
}

// Names and symbols are written as they are, and fields that a kind does not use are ignored.
func TestP803Fields(t *testing.T) {
	for _, s := range []string{"", "x", "X", "a b", "\n", "\xff", "\"", "é", "<-", "12"} {
		checkShow(t, s, name(0, s))
		checkShow(t, s, symbol(0, s))
		checkShow(t, s+" "+s, symbol(0, s), api.Token{Kind: api.TName, At: -1, Len: math.MaxInt, Num: math.MinInt, Text: s})
		checkShow(t, "5 'A' ;", api.Token{Kind: api.TNumber, Num: 5, Text: s}, api.Token{Kind: api.TChar, Num: 65, Text: s}, api.Token{Kind: api.TBreak, Num: 65, Text: s})
	}
	checkShow(t, `"x"`, api.Token{Kind: api.TString, Num: math.MaxInt, Text: "x"})
	for _, a := range strange() {
		for _, b := range strange()[:150] {
			l := []api.Token{a, b, a}
			checkShow(t, referenceShow(l), l...)
		}
	}
}

func TestP804All(t *testing.T) {
	list := reservedList()
	if len(list) != 72 || len(slices.Compact(slices.Sorted(slices.Values(list)))) != 72 {
		t.Fatalf("the document reserves 55 functions, 11 operators and 6 others; the test has %d", len(list))
	}
	for _, s := range list {
		if !Reserved(s) {
			t.Errorf("%q is reserved", s)
		}
	}
}

func TestP804None(t *testing.T) {
	list := []string{
		"", " ", "(", ")", "{", "}", ":", "<-", ";", "\n", "#", "~", "_", "'", `"`, "==", "<>", "~<", "!=", "->", "\\\\", "//", "**",
		"x", "y", "f", "g", "x1", "Self", "ARG", "selfs", "args", "add", "sub", "mul", "div", "mod", "pow", "less", "equal", "join", "reduce", "scan", "kindof", "amin", "filter", "map", "index", "last",
		"A", "Z", "XY", "1", "_1", "\x00", "\xff", "é",
	}
	for _, s := range append(list, allOf(3, strings.Split("+-*%|^<=~>,/\\(){}: _#;", "")...)...) {
		if got, want := Reserved(s), slices.Contains(reservedList(), s); got != want {
			t.Errorf("Reserved(%q) = %t; want %t", s, got, want)
		}
	}
}

func TestP804Words(t *testing.T) {
	reserved := map[string]bool{}
	for _, s := range reservedList() {
		reserved[s] = true
	}
	list := allOf(3, strings.Split("abcdefghijklmnopqrstuvwxyzXYFGAZ01", "")...)
	for _, s := range reservedList() {
		list = append(list, strings.ToUpper(s), strings.ToUpper(s[:1])+s[1:], strings.ToLower(s))
		for i := range len(s) + 1 {
			list = append(list, s[:i], s[i:], s[:i]+"e"+s[i:], s[:i]+" "+s[i:], s[:i]+"\x00"+s[i:])
		}
		for _, other := range reservedList() {
			list = append(list, s+other, s+" "+other)
		}
	}
	for _, s := range list {
		if Reserved(s) != reserved[s] {
			t.Errorf("Reserved(%q) = %t; want %t", s, Reserved(s), reserved[s])
		}
	}
}

// moved returns the tokens with their offsets moved by distance.
func moved(l []api.Token, distance int) []api.Token {
	l = slices.Clone(l)
	for i := range l {
		l[i].At += distance
	}
	return l
}

// placeless returns the tokens without their offsets and lengths.
func placeless(l []api.Token) []api.Token {
	l = slices.Clone(l)
	for i := range l {
		l[i].At, l[i].Len = 0, 0
	}
	return l
}

// checkRoundTrip checks that Scan of Show of the tokens of s returns the same tokens, if s has tokens and is short enough.
func checkRoundTrip(t *testing.T, s string) {
	t.Helper()
	tokens, fault := Scan(s)
	if fault.Kind != api.OK {
		return
	}
	again, fault := Scan(Show(tokens))
	if fault.Kind != api.OK || !slices.Equal(placeless(again), placeless(tokens)) {
		t.Errorf("Scan of Show of the tokens of %s = %v, %v; want %v", shown(s), again, fault, tokens)
	}
}

func TestP805RoundTrip(t *testing.T) {
	for _, s := range good() {
		checkRoundTrip(t, s)
		for _, other := range good() {
			checkRoundTrip(t, s+other)
		}
	}
	for _, s := range allOf(4, "a", "X", "1", "_", "<", "=", "-", "~", "'", `"`, `\`, "\t", "#", " ", "\n", "é") {
		checkRoundTrip(t, s)
	}
	for n := range api.MaxRune + 1 {
		if utf8.ValidRune(rune(n)) {
			checkRoundTrip(t, fmt.Sprintf(`'\u{%x}'"\u{%x}a"`, n, n))
		}
	}
	checkRoundTrip(t, strings.Repeat("+ ", api.MaxToks))
}

func TestP805Joined(t *testing.T) {
	list := append(good(), allOf(2, "a", "1", "_", "<", "=", "-", "'a'", `"b"`, "#", " ", "\n", ";", "X")...)
	for _, a := range list {
		first, fault := Scan(a)
		if fault.Kind != api.OK {
			continue
		}
		for _, b := range list {
			if second, fault := Scan(b); fault.Kind == api.OK {
				want := append(append(slices.Clone(first), newline(len(a))), moved(second, len(a)+1)...)
				checkTokens(t, a+"\n"+b, want...)
			}
		}
	}
}
