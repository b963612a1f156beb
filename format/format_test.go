package format

import (
	"errors"
	"fmt"
	"math"
	"slices"
	"strconv"
	"strings"
	"testing"
	"unicode/utf8"

	"arraylang/api"
	"arraylang/array"
	"arraylang/cell"
	"arraylang/shape"
)

// ints returns the Int array of the given shape and numbers; chars and boxed do so for the other kinds.
func ints(s []int, nums ...int) api.Array {
	return api.Array{Kind: api.Int, Shape: s, Nums: nums}
}

func chars(s []int, nums ...int) api.Array {
	return api.Array{Kind: api.Char, Shape: s, Nums: nums}
}

func boxed(s []int, items ...api.Array) api.Array {
	return api.Array{Kind: api.Boxed, Shape: s, Items: items}
}

func text(s string) api.Array { return array.Text(s) }

func repeat(d, count int) []int { return slices.Repeat([]int{d}, count) }

// long returns an Int vector of zeros.
func long(size int) api.Array { return ints([]int{size}, make([]int, size)...) }

// heavy returns a boxed vector of the given weight, which must be more than 200000.
func heavy(weight int) api.Array {
	return boxed([]int{4}, long(api.MaxSize), long(api.MaxSize), long(api.MaxSize), long(weight-4-3*api.MaxSize))
}

// nest returns a within count boxes.
func nest(a api.Array, count int) api.Array {
	for range count {
		a = boxed(nil, a)
	}
	return a
}

// within returns an array that is one of its own items, which a valid array never is. It cannot be printed or compared.
func within() api.Array {
	items := []api.Array{array.Scalar(1), {}}
	items[1] = boxed([]int{2}, items...)
	items[1].Items = items
	return items[1]
}

// filled returns the array of the given shape whose elements are those of from, repeated.
func filled(t *testing.T, s []int, from api.Array) api.Array {
	t.Helper()
	a, e := array.Of(s, from)
	if e != api.OK {
		t.Fatalf("no array of the shape %v: %d", s, e)
	}
	return a
}

// shapes returns valid shapes of few elements.
func shapes() [][]int {
	return [][]int{
		nil, {0}, {1}, {2}, {3}, {5}, {1, 1}, {1, 3}, {3, 1}, {2, 3}, {3, 2}, {0, 3}, {3, 0}, {0, 0}, {1, 1, 1}, {2, 1, 3}, {1, 2, 2}, {3, 2, 2}, {2, 2, 1}, {2, 0, 2}, {0, 2, 2}, {2, 2, 0},
		{1, 2, 3, 2}, {2, 2, 2, 2}, {2, 1, 0, 3}, {2, 2, 1, 1, 2}, {1, 2, 1, 2, 1, 2, 1, 2}, repeat(1, api.MaxRank), repeat(0, api.MaxRank), {api.MaxSize, 0}, {0, api.MaxSize}, {0, 256, 256},
	}
}

// valid returns valid arrays of little weight.
func valid(t *testing.T) []api.Array {
	list := []api.Array{
		array.Scalar(-api.MaxNum), array.Scalar(api.MaxNum), array.Vector(api.MaxNum, -api.MaxNum, 0), chars(nil, api.MaxRune), chars(nil, 0), nest(array.Vector(1, 2), api.MaxNest), nest(boxed([]int{0}), api.MaxNest),
		boxed([]int{2, 2}, text("é"), array.Scalar(12345), text("ab"), text("\n\x00\u2028")), boxed([]int{2}, nest(text("a"), api.MaxNest-1), array.Scalar(3)),
	}
	numbers, letters := array.Vector(7, -10, 123, 0, -4567, 8, 99), text("aZ ~\x7f\x1f\n\t\r\\'\"éé世😀\x00")
	items := array.Boxes(array.Scalar(5), text("ab"), array.Vector(), text(""), array.Boxes(array.Scalar(1), text("\"'")), array.Vector(-1), boxed([]int{1}, text("é")), ints([]int{2, 2}, 1, 2, -3, 4), boxed(nil, chars(nil, '\'')), boxed([]int{0, 2}))
	for _, s := range shapes() {
		list = append(list, filled(t, s, numbers), filled(t, s, letters), filled(t, s, items))
	}
	return append(list, varied(400)...)
}

// varied returns count different arrays, which always are the same ones.
func varied(count int) []api.Array {
	state := uint64(1)
	below := func(n int) int {
		state = state*6364136223846793005 + 1442695040888963407
		return int(state>>33) % n
	}
	var make func(deep int) api.Array
	make = func(deep int) api.Array {
		a := api.Array{Kind: api.Kind(1 + below(3))}
		if deep == 0 {
			a.Kind = api.Kind(1 + below(2))
		}
		for range below(5) {
			a.Shape = append(a.Shape, below(4))
		}
		for range shape.Size(a.Shape) {
			switch a.Kind {
			case api.Int:
				a.Nums = append(a.Nums, (below(2)*2-1)*(below(1000)>>below(10)))
			case api.Char:
				a.Nums = append(a.Nums, below(0x90<<below(8)))
			case api.Boxed:
				a.Items = append(a.Items, make(deep-1))
			}
		}
		return a
	}
	list := []api.Array{}
	for len(list) < count {
		if a := make(3); array.Weight(a) < 2000 {
			list = append(list, a)
		}
	}
	return list
}

// broken returns arrays that are not valid, one for each reason, on the outside and within a box.
func broken() []api.Array {
	list := []api.Array{
		{}, {Shape: []int{0}}, {Kind: 4, Nums: []int{1}}, {Kind: -1, Shape: []int{2}, Items: []api.Array{array.Scalar(1), array.Scalar(2)}}, {Kind: math.MaxInt},
		ints(repeat(1, api.MaxRank+1), 1), chars(repeat(0, api.MaxRank+1)), ints([]int{-1}), boxed([]int{0, -2}), ints([]int{-1, -1}, 1), ints([]int{math.MinInt}), ints([]int{math.MaxInt}),
		ints([]int{0, api.MaxSize + 1}), chars([]int{1 << 32, 1 << 32}), long(api.MaxSize + 1),
		ints(nil), ints([]int{2}, 1), ints([]int{2}, 1, 2, 3), ints([]int{0}, 1), boxed(nil), boxed([]int{0}, array.Scalar(1)), boxed([]int{2, 2}, array.Scalar(1)), chars([]int{2, 2}, 'a', 'b', 'c'),
		{Kind: api.Int, Nums: []int{1}, Items: []api.Array{array.Scalar(1)}}, {Kind: api.Boxed, Shape: []int{0}, Nums: []int{1}},
		ints(nil, api.MaxNum+1), ints([]int{2}, 0, math.MinInt), chars(nil, 0xD800), chars([]int{1}, 0xDFFF), chars([]int{2}, 'a', -1), chars(nil, api.MaxRune+1),
	}
	for _, a := range slices.Clone(list) {
		list = append(list, boxed(nil, a), boxed([]int{2}, array.Scalar(1), a), boxed([]int{1, 1}, boxed([]int{1}, a)))
	}
	return append(list, nest(array.Scalar(1), api.MaxNest+1), nest(boxed([]int{0}), api.MaxNest+1), heavy(api.MaxWeight+1))
}

// brief returns v as text of a bounded length.
func brief(v any) string {
	s := fmt.Sprintf("%.1000v", v)
	if len(s) > 300 {
		s = s[:300] + "..."
	}
	return s
}

// copied returns a copy of a in which every list has room behind its end, and an empty list is nil, or not nil if roomy is true.
func copied(a api.Array, roomy bool) api.Array {
	result := api.Array{Kind: a.Kind}
	if roomy {
		result.Shape, result.Nums, result.Items = make([]int, 0, 9), make([]int, 0, len(a.Nums)+9), make([]api.Array, 0, len(a.Items)+9)
	}
	result.Shape, result.Nums = append(result.Shape, a.Shape...), append(result.Nums, a.Nums...)
	for _, item := range a.Items {
		result.Items = append(result.Items, copied(item, roomy))
	}
	return result
}

// expectDigits is the digits of n by the chapter's words.
func expectDigits(n int) string {
	if n < 0 {
		return "_" + strconv.Itoa(-n)
	}
	return strconv.Itoa(n)
}

// expectShort is the short form of c for the quote by the words of chapter 9.
func expectShort(c int, quote rune) string {
	switch short, ok := map[int]string{10: `\n`, 9: `\t`, 13: `\r`, '\\': `\\`, int(quote): `\` + string(quote)}[c]; {
	case ok:
		return short
	case c < 32 || c == 127:
		return fmt.Sprintf(`\u{%x}`, c)
	}
	return string([]rune{rune(c)})
}

// expectScalar is the literal of a scalar by the chapter's words, and expectVector that of a vector with a literal of its own.
func expectScalar(a api.Array) string {
	switch a.Kind {
	case api.Int:
		return expectDigits(a.Nums[0])
	case api.Char:
		return "'" + expectShort(a.Nums[0], '\'') + "'"
	}
	return "box " + expectLiteral(a.Items[0])
}

func expectVector(a api.Array) string {
	if a.Kind == api.Char {
		s := ""
		for _, c := range a.Nums {
			s += expectShort(c, '"')
		}
		return `"` + s + `"`
	}
	var parts []string
	for i := range array.Size(a) {
		part := expectScalar(array.At(a, i))
		if a.Kind == api.Boxed {
			part = "(" + part + ")"
		}
		parts = append(parts, part)
	}
	return strings.Join(parts, " ")
}

// expectLiteral is the literal of a valid array by the chapter's words.
func expectLiteral(a api.Array) string {
	size := array.Size(a)
	if len(a.Shape) == 0 {
		return expectScalar(a)
	}
	if len(a.Shape) == 1 && (a.Kind == api.Char || size >= 2) {
		return expectVector(a)
	}
	dimensions := strings.Trim(fmt.Sprint(a.Shape), "[]")
	switch {
	case size == 0:
		return dimensions + " reshape " + map[api.Kind]string{api.Int: "0", api.Char: "' '", api.Boxed: "box 0 reshape 0"}[a.Kind]
	case size == 1:
		return dimensions + " reshape " + expectScalar(array.At(a, 0))
	}
	return dimensions + " reshape " + expectVector(a)
}

// expectCell is the cell text of element i of a by the chapter's words.
func expectCell(a api.Array, i int) string {
	switch {
	case a.Kind == api.Int:
		return expectDigits(a.Nums[i])
	case a.Kind == api.Boxed:
		return "[" + expectLiteral(a.Items[i]) + "]"
	case 32 <= a.Nums[i] && a.Nums[i] <= 126:
		return string([]byte{byte(a.Nums[i])})
	}
	return "?"
}

// expectMatrix is what P503 says for a matrix.
func expectMatrix(a api.Array, between string) []string {
	rows, columns := a.Shape[0], a.Shape[1]
	var lines []string
	for row := range rows {
		line := ""
		for column := range columns {
			s, width := expectCell(a, row*columns+column), 0
			for other := range rows {
				width = max(width, len(expectCell(a, other*columns+column)))
			}
			for len(s) < width {
				s = " " + s
			}
			if column > 0 {
				line += between
			}
			line += s
		}
		lines = append(lines, line)
	}
	return lines
}

// expectLines is what P503 says for a valid array.
func expectLines(a api.Array) []string {
	between := " "
	if a.Kind == api.Char {
		between = ""
	}
	switch {
	case len(a.Shape) < 2:
		var texts []string
		for i := range array.Size(a) {
			texts = append(texts, expectCell(a, i))
		}
		return []string{strings.Join(texts, between)}
	case array.Size(a) == 0:
		return nil
	case len(a.Shape) == 2:
		return expectMatrix(a, between)
	}
	var lines []string
	for i, c := range cell.Cells(a, 2) {
		if i > 0 {
			lines = append(lines, "")
		}
		lines = append(lines, expectMatrix(c, between)...)
	}
	return lines
}

// expectShow is what P504 says.
func expectShow(lines []string) string {
	s := ""
	for _, line := range lines {
		s += line + "\n"
	}
	return s
}

var errText = errors.New("not the text of an array")

// reader evaluates source text that consists of literals, strands, parentheses, box and reshape by DOC.md's words.
type reader struct{ rest string }

// next removes s and the blanks behind it from the beginning of the rest, if it is there.
func (r *reader) next(s string) bool {
	rest, ok := strings.CutPrefix(r.rest, s)
	if ok {
		r.rest = strings.TrimLeft(rest, " ")
	}
	return ok
}

func (r *reader) expression() (api.Array, error) {
	if r.next("box ") {
		y, err := r.expression()
		return boxed(nil, y), err
	}
	left, err := r.strand()
	if err != nil || !r.next("reshape ") {
		return left, err
	}
	y, err := r.expression()
	if err != nil || left.Kind != api.Int || len(left.Shape) > 1 {
		return y, errors.Join(err, errors.New("no dimensions"))
	}
	result, e := array.Of(left.Nums, y)
	if e != api.OK {
		return result, errText
	}
	return result, nil
}

// strand reads one or more primaries and returns the value of their strand.
func (r *reader) strand() (api.Array, error) {
	var list []api.Array
	for r.rest != "" && strings.ContainsRune("_0123456789'\"(", rune(r.rest[0])) {
		a, err := r.primary()
		if err != nil {
			return a, err
		}
		list = append(list, a)
	}
	if len(list) == 0 || len(list) > api.MaxStrand {
		return api.Array{}, errText
	}
	if len(list) == 1 {
		return list[0], nil
	}
	simple, vector, strand := true, api.Array{Kind: list[0].Kind, Shape: []int{len(list)}}, boxed([]int{len(list)})
	for _, a := range list {
		simple = simple && a.Kind == vector.Kind && a.Kind != api.Boxed && len(a.Shape) == 0
		vector.Nums = append(vector.Nums, a.Nums...)
		if a.Kind == api.Boxed && len(a.Shape) == 0 {
			a = a.Items[0]
		}
		strand.Items = append(strand.Items, a)
	}
	if simple {
		return vector, nil
	}
	return strand, nil
}

// primary reads a literal or an expression in parentheses.
func (r *reader) primary() (api.Array, error) {
	if r.next("(") {
		a, err := r.expression()
		if err == nil && !r.next(")") {
			err = errText
		}
		return a, err
	}
	if c := r.rest[0]; c == '\'' || c == '"' {
		return r.quoted(rune(c))
	}
	digits := strings.TrimPrefix(r.rest, "_")
	length := len(digits) - len(strings.TrimLeft(digits, "0123456789"))
	n, err := strconv.Atoi(digits[:length])
	if len(digits) < len(r.rest) {
		n = -n
	}
	r.rest = digits[length:]
	if r.rest != "" && !strings.ContainsRune(" )", rune(r.rest[0])) {
		return api.Array{}, errText
	}
	r.next("")
	return ints(nil, n), err
}

// quoted reads a character or string literal with the given quote.
func (r *reader) quoted(quote rune) (api.Array, error) {
	a := api.Array{Kind: api.Char}
	rest := r.rest[1:]
	for {
		c, size := utf8.DecodeRuneInString(rest)
		if c == utf8.RuneError && size <= 1 || c < ' ' {
			return a, errText
		}
		rest = rest[size:]
		if c == quote {
			break
		}
		if c == '\\' {
			var err error
			if c, rest, err = escape(rest); err != nil {
				return a, err
			}
		}
		a.Nums = append(a.Nums, int(c))
	}
	r.rest = rest
	r.next("")
	if quote == '"' {
		a.Shape = []int{len(a.Nums)}
	} else if len(a.Nums) != 1 {
		return a, errText
	}
	return a, nil
}

// escape reads what follows the backslash of an escape, and returns its character and what is behind it.
func escape(s string) (rune, string, error) {
	if s == "" {
		return 0, "", errText
	}
	if i := strings.IndexByte(`ntr\'"`, s[0]); i >= 0 {
		return rune("\n\t\r\\'\""[i]), s[1:], nil
	}
	digits, rest, ok := strings.Cut(strings.TrimPrefix(s, "u{"), "}")
	n, err := strconv.ParseUint(digits, 16, 32)
	if !ok || !strings.HasPrefix(s, "u{") || err != nil || len(digits) > 6 || strings.ToLower(digits) != digits || !utf8.ValidRune(rune(n)) {
		return 0, "", errText
	}
	return rune(n), rest, nil
}

// evaluate returns the value of source text.
func evaluate(s string) (api.Array, error) {
	r := reader{s}
	a, err := r.expression()
	if err == nil && r.rest != "" {
		err = errText
	}
	return a, err
}

// checkRoundTrip checks P505 for a.
func checkRoundTrip(t *testing.T, a api.Array) {
	t.Helper()
	s := Literal(a)
	if b, err := evaluate(s); err != nil || !array.Same(a, b) {
		t.Errorf("evaluating the literal %s of %s yields %s, %v", brief(s), brief(a), brief(b), err)
	}
}

func checkLines(t *testing.T, a api.Array, want ...string) {
	t.Helper()
	if got := Lines(a); !slices.Equal(got, want) {
		t.Errorf("Lines(%s) = %s; want %s", brief(a), brief(fmt.Sprintf("%q", got)), brief(fmt.Sprintf("%q", want)))
	}
	if got := Show(a); got != expectShow(want) {
		t.Errorf("Show(%s) = %s; want the lines %s", brief(a), brief(strconv.Quote(got)), brief(fmt.Sprintf("%q", want)))
	}
}

func TestP501Pure(t *testing.T) {
	for _, a := range append(valid(t), broken()...) {
		b, bare := copied(a, true), copied(a, false)
		literal, lines, show := Literal(b), Lines(b), Show(b)
		if !array.Same(a, b) {
			t.Fatalf("the calls for %s change it", brief(a))
		}
		if Literal(b) != literal || !slices.Equal(Lines(b), lines) || Show(b) != show {
			t.Fatalf("a call for %s returns another result the second time", brief(a))
		}
		if Literal(bare) != literal || !slices.Equal(Lines(bare), lines) || Show(bare) != show {
			t.Fatalf("a call for %s returns another result if its empty lists are nil", brief(a))
		}
	}
}

// TestP501RoomBehindLists finds calls that write behind the end of a list.
func TestP501RoomBehindLists(t *testing.T) {
	var check func(a api.Array) bool
	check = func(a api.Array) bool {
		for _, l := range [][]int{a.Shape, a.Nums} {
			if slices.ContainsFunc(l[len(l):cap(l)], func(n int) bool { return n != 0 }) {
				return false
			}
		}
		for _, item := range a.Items[len(a.Items):cap(a.Items)] {
			if !array.Same(item, api.Array{}) {
				return false
			}
		}
		return !slices.ContainsFunc(a.Items, func(item api.Array) bool { return !check(item) })
	}
	for _, a := range valid(t) {
		b := copied(a, true)
		_, _, _ = Literal(b), Lines(b), Show(b)
		if !check(b) {
			t.Errorf("a call for %s writes behind the end of a list", brief(a))
		}
	}
}

func TestP501NoSharedMemory(t *testing.T) {
	for _, a := range valid(t) {
		b := copied(a, false)
		first, second := Lines(b), Lines(b)
		want := slices.Clone(second)
		for i := range first {
			first[i] = "changed"
		}
		for i := range b.Shape {
			b.Shape[i] = 99
		}
		if !slices.Equal(second, want) || !slices.Equal(Lines(a), want) {
			t.Errorf("the lines of %s change with those of another call, or with the array", brief(a))
		}
	}
}

func TestP501BrokenArrays(t *testing.T) {
	for _, a := range append(broken(), within()) {
		if s := Literal(a); s != "" {
			t.Errorf("the literal of an invalid array of kind %d is %s", a.Kind, brief(s))
		}
		if l := Lines(a); len(l) != 0 {
			t.Errorf("an invalid array of kind %d has the lines %s", a.Kind, brief(l))
		}
		if s := Show(a); s != "" {
			t.Errorf("an invalid array of kind %d is shown as %s", a.Kind, brief(s))
		}
	}
}

func TestP502Examples(t *testing.T) {
	one := array.Scalar(1)
	for _, c := range []struct {
		a    api.Array
		want string
	}{
		{ints([]int{2, 3}, 1, 2, 3, 4, 5, 6), "2 3 reshape 1 2 3 4 5 6"}, {array.Vector(-5), "1 reshape _5"}, {array.Vector(), "0 reshape 0"}, {array.Boxes(one, text("ab")), `(box 1) (box "ab")`},
		{array.Scalar(0), "0"}, {array.Scalar(-7), "_7"}, {array.Scalar(api.MaxNum), "4611686018427387903"}, {array.Scalar(-api.MaxNum), "_4611686018427387903"}, {array.Vector(10, -2), "10 _2"}, {array.Vector(0, 0, 0), "0 0 0"},
		{chars(nil, 'a'), "'a'"}, {chars(nil, '\''), `'\''`}, {chars(nil, '"'), `'"'`}, {chars(nil, '\\'), `'\\'`}, {chars(nil, 127), `'\u{7f}'`}, {chars(nil, 0), `'\u{0}'`}, {chars(nil, '\n'), `'\n'`}, {chars(nil, 0x1f), `'\u{1f}'`},
		{text(""), `""`}, {text("a"), `"a"`}, {text("it's"), `"it's"`}, {text("a\n\""), `"a\n\""`}, {text("\t\r\\\x07"), `"\t\r\\\u{7}"`}, {text("\u0080é\ufffd😀"), "\"\u0080é\ufffd😀\""},
		{chars([]int{1, 1}, 'a'), "1 1 reshape 'a'"}, {chars([]int{2, 1}, 'a', 'b'), `2 1 reshape "ab"`}, {chars([]int{0, 3}), "0 3 reshape ' '"}, {chars([]int{1, 1, 1}, '"'), `1 1 1 reshape '"'`}, {chars([]int{1, 2}, '"', '\''), `1 2 reshape "\"'"`},
		{ints([]int{1, 1}, 5), "1 1 reshape 5"}, {ints([]int{0, 256, 256}), "0 256 256 reshape 0"}, {ints([]int{1, 2}, 3, -4), "1 2 reshape 3 _4"}, {ints(repeat(1, 8), 9), "1 1 1 1 1 1 1 1 reshape 9"},
		{array.Box(one), "box 1"}, {array.Box(array.Box(text("a"))), `box box "a"`}, {array.Box(array.Vector()), "box 0 reshape 0"}, {array.Box(array.Vector(1, 2)), "box 1 2"}, {array.Box(array.Boxes(one, one)), "box (box 1) (box 1)"},
		{array.Boxes(), "0 reshape box 0 reshape 0"}, {boxed([]int{2, 0}), "2 0 reshape box 0 reshape 0"}, {array.Boxes(one), "1 reshape box 1"}, {array.Boxes(array.Vector(4)), "1 reshape box 1 reshape 4"}, {boxed([]int{1, 1}, text("")), `1 1 reshape box ""`},
		{boxed([]int{2, 1}, one, chars(nil, 'x')), "2 1 reshape (box 1) (box 'x')"}, {array.Boxes(array.Boxes(), array.Boxes(one, array.Vector(2, 3))), "(box 0 reshape box 0 reshape 0) (box (box 1) (box 2 3))"}, {array.Boxes(array.Box(one), one), "(box box 1) (box 1)"},
	} {
		if got := Literal(c.a); got != c.want {
			t.Errorf("Literal(%v) = %s; want %s", c.a, got, c.want)
		}
	}
}

func TestP502EveryArray(t *testing.T) {
	for _, a := range valid(t) {
		if got, want := Literal(a), expectLiteral(a); got != want {
			t.Errorf("Literal(%s) = %s; want %s", brief(a), brief(got), brief(want))
		}
	}
}

func TestP502EveryCharacter(t *testing.T) {
	for c := range api.MaxRune + 1 {
		if 0xD800 <= c && c <= 0xDFFF {
			continue
		}
		if got, want := Literal(chars(nil, c)), "'"+expectShort(c, '\'')+"'"; got != want {
			t.Fatalf("the literal of the character %d is %s; want %s", c, got, want)
		}
		if got, want := Literal(chars([]int{1}, c)), `"`+expectShort(c, '"')+`"`; got != want {
			t.Fatalf("the literal of the vector of the character %d is %s; want %s", c, got, want)
		}
	}
}

func TestP502Limits(t *testing.T) {
	if got, want := Literal(long(api.MaxSize)), strings.Repeat("0 ", api.MaxSize-1)+"0"; got != want {
		t.Error("the literal of the longest vector is", brief(got))
	}
	if got, want := Literal(chars([]int{api.MaxSize}, repeat('"', api.MaxSize)...)), `"`+strings.Repeat(`\"`, api.MaxSize)+`"`; got != want {
		t.Error("the literal of the longest text is", brief(got))
	}
	if got, want := Literal(boxed([]int{api.MaxSize}, slices.Repeat([]api.Array{text("")}, api.MaxSize)...)), strings.Repeat(`(box "") `, api.MaxSize-1)+`(box "")`; got != want {
		t.Error("the literal of the longest boxed vector is", brief(got))
	}
	if got, want := Literal(nest(array.Vector(1, 2), api.MaxNest)), strings.Repeat("box ", api.MaxNest)+"1 2"; got != want {
		t.Error("the literal of the deepest box is", brief(got))
	}
	if got := Literal(heavy(api.MaxWeight)); strings.Count(got, "0") != api.MaxWeight-4 || strings.Count(got, "(box ") != 4 {
		t.Error("the literal of the heaviest array is", brief(got))
	}
}

func TestP503Examples(t *testing.T) {
	checkLines(t, ints([]int{2, 2}, 1, 10, 200, 3), "  1 10", "200  3")
	checkLines(t, array.Scalar(-5), "_5")
	checkLines(t, chars(nil, 'x'), "x")
	checkLines(t, array.Box(text("é'\n")), "[\"é'\\n\"]")
	checkLines(t, array.Vector(), "")
	checkLines(t, text(""), "")
	checkLines(t, array.Boxes(), "")
	checkLines(t, array.Vector(-5), "_5")
	checkLines(t, array.Vector(1, -20, 300), "1 _20 300")
	checkLines(t, text("Hi there"), "Hi there")
	checkLines(t, array.Boxes(array.Scalar(1), text("ab"), array.Boxes()), `[1] ["ab"] [0 reshape box 0 reshape 0]`)
	checkLines(t, chars([]int{2, 3}, 'a', 'b', 'c', ' ', 'e', 'f'), "abc", " ef")
	checkLines(t, ints([]int{3, 1}, 5, -100, 77), "   5", "_100", "  77")
	checkLines(t, ints([]int{1, 3}, 5, -100, 77), "5 _100 77")
}

func TestP503CharacterCells(t *testing.T) {
	checkLines(t, text("\x1f !}~\x7f\u0080é世\n\x00"), "? !}~??????")
	checkLines(t, chars([]int{2, 2}, '\n', 'a', api.MaxRune, '\x1b'), "?a", "??")
	for c := range api.MaxRune + 1 {
		if a := chars(nil, c); array.Right(a) == api.OK && !slices.Equal(Lines(a), []string{expectCell(a, 0)}) {
			t.Fatalf("the cell text of %d is %q", c, Lines(a))
		}
	}
}

func TestP503WidthsAreBytes(t *testing.T) {
	checkLines(t, boxed([]int{2, 2}, text("é"), array.Scalar(1), text("ab"), array.Scalar(-23)), "[\"é\"]   [1]", "[\"ab\"] [_23]")
	checkLines(t, boxed([]int{2, 1}, text("😀"), text("abc")), "[\"😀\"]", " [\"abc\"]")
}

func TestP503GreaterRanks(t *testing.T) {
	checkLines(t, ints([]int{2, 2, 2}, 1, 2, 3, 4, 100, 5, 6, 70), "1 2", "3 4", "", "100  5", "  6 70")
	checkLines(t, ints([]int{2, 2, 1, 1}, 1, 20, 3, 4), "1", "", "20", "", "3", "", "4")
	checkLines(t, chars([]int{3, 1, 2}, 'a', 'b', 'c', 'd', 'e', 'f'), "ab", "", "cd", "", "ef")
	checkLines(t, boxed([]int{2, 1, 1}, text(""), array.Scalar(123)), `[""]`, "", "[123]")
	checkLines(t, ints(repeat(1, api.MaxRank), 7), "7")
}

func TestP503NoElements(t *testing.T) {
	for _, s := range [][]int{{0, 0}, {0, 3}, {3, 0}, {0, 2, 2}, {2, 0, 2}, {2, 2, 0}, {2, 2, 2, 0}, {2, 2, 0, 2}, {api.MaxSize, 0}, {api.MaxSize, 1, 1, 0}, repeat(0, api.MaxRank)} {
		checkLines(t, ints(s))
		checkLines(t, chars(s))
		checkLines(t, boxed(s))
	}
}

func TestP503EveryArray(t *testing.T) {
	for _, a := range valid(t) {
		checkLines(t, a, expectLines(a)...)
	}
}

func TestP503Limits(t *testing.T) {
	column := long(api.MaxSize)
	column.Shape, column.Nums[5] = []int{api.MaxSize, 1}, -api.MaxNum
	lines := slices.Repeat([]string{strings.Repeat(" ", 19) + "0"}, api.MaxSize)
	lines[5] = "_4611686018427387903"
	if got := Lines(column); !slices.Equal(got, lines) {
		t.Error("the lines of the longest column are", brief(got))
	}
	if got, want := Show(long(api.MaxSize)), strings.Repeat("0 ", api.MaxSize-1)+"0\n"; got != want {
		t.Error("the longest vector is shown as", brief(got))
	}
	planes := ints(slices.Concat([]int{api.MaxSize}, repeat(1, api.MaxRank-1)), make([]int, api.MaxSize)...)
	if got, want := Show(planes), strings.Repeat("0\n\n", api.MaxSize-1)+"0\n"; got != want {
		t.Error("the greatest number of 2-cells is shown as", brief(got))
	}
	zeros := strings.Repeat("0 ", api.MaxSize-1) + "0"
	last := strings.TrimSuffix(zeros, strings.Repeat(" 0", 4))
	if got, want := Show(heavy(api.MaxWeight)), strings.Repeat("["+zeros+"] ", 3)+"["+last+"]\n"; got != want {
		t.Error("the heaviest array is shown as", brief(got))
	}
}

func TestP504Show(t *testing.T) {
	for _, c := range []struct {
		a    api.Array
		want string
	}{
		{ints([]int{2, 2}, 1, 10, 200, 3), "  1 10\n200  3\n"}, {array.Scalar(3), "3\n"}, {array.Vector(), "\n"}, {text(""), "\n"}, {text("a\nb"), "a?b\n"}, {ints([]int{0, 3}), ""}, {ints([]int{3, 0}), ""},
		{chars([]int{2, 1, 1}, 'a', 'b'), "a\n\nb\n"}, {api.Array{}, ""},
	} {
		if got := Show(c.a); got != c.want {
			t.Errorf("Show(%v) = %q; want %q", c.a, got, c.want)
		}
	}
	for _, a := range valid(t) {
		if got, want := Show(a), expectShow(Lines(a)); got != want {
			t.Errorf("Show(%s) = %s; want %s", brief(a), brief(got), brief(want))
		}
	}
}

func TestP505RoundTrip(t *testing.T) {
	for _, a := range valid(t) {
		checkRoundTrip(t, a)
	}
	checkRoundTrip(t, long(api.MaxStrand))
	checkRoundTrip(t, ints([]int{api.MaxStrand, 1}, make([]int, api.MaxStrand)...))
	checkRoundTrip(t, boxed([]int{api.MaxStrand}, slices.Repeat([]api.Array{text("a")}, api.MaxStrand)...))
}

func TestP505EveryCharacter(t *testing.T) {
	var block []int
	for c := range api.MaxRune + 1 {
		if c < 0xD800 || c > 0xDFFF {
			block = append(block, c)
		}
		if len(block) == api.MaxStrand || c == api.MaxRune {
			checkRoundTrip(t, chars([]int{len(block)}, block...))
			checkRoundTrip(t, chars([]int{1, len(block)}, block...))
			block = nil
		}
	}
	for c := range 0x300 {
		checkRoundTrip(t, chars(nil, c))
		checkRoundTrip(t, boxed([]int{1}, chars([]int{1, 1}, c)))
	}
}
