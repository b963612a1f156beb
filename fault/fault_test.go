package fault

import (
	"fmt"
	"go/ast"
	"go/parser"
	"go/token"
	"math"
	"slices"
	"strconv"
	"strings"
	"testing"

	"arraylang/api"
)

// example is a source whose fault the chapter shows.
const example = "1 2 3 + 2 3 reshape 10"

// named is the words of the error codes from 0 on.
const named = "ok arg long char number string token end deep name duplicate class result " +
	"valence kind rank length domain index overflow zero limit calls steps memory form code sum notfound"

// strangers returns numbers that are not error codes, among them some that are one modulo a power of two.
func strangers() []api.Errno {
	list := []api.Errno{-1, -2, -28, -29, 29, 30, 31, 32, 100, 255, 256, 272, 1 << 16, 1<<16 + 16, 1 << 32, 1<<32 + 16, math.MinInt32, math.MaxInt32, math.MinInt, math.MinInt + 16, math.MaxInt}
	for e := range api.Errno(1000) {
		list = append(list, -1-e, 29+e)
	}
	return list
}

// sources returns texts with newlines at all places, and texts in which other bytes or characters might count as one.
func sources() []string {
	list := []string{
		"", example, "avg <- +/ % tally\navg 1 2 6\n", "a\r\nb\r\nc", "\r\r", "a;b;c", "\ta\n\tb", "# one\n# two\n\n\nx", "\x00\n\x00", "\v\n\f\n",
		// Columns count bytes, whatever they are bytes of.
		"é\né", "'\u2028'\n\u2029x", "\U0001F600\n\U0001F600\U0001F600", "\u0085\n\u010a\n\u0a0a", "\xff\n\x80\xfe", "\xc3\n\xa9", "\xe2\x80\n\xa8", "\x8a\x0a\x8a",
		strings.Repeat("\n", 300), strings.Repeat("x", 300), strings.Repeat("x", 300) + "\n" + strings.Repeat("y", 120),
	}
	// All texts of up to six bytes of which each is a newline or not.
	for size := range 7 {
		for bits := range 1 << size {
			text := ""
			for i := range size {
				text += string("a\n"[bits>>i&1])
			}
			list = append(list, text)
		}
	}
	return list
}

// offsets returns all offsets in s, and some below and beyond them.
func offsets(s string) []int {
	list := []int{-1, -2, -10, -len(s), -len(s) - 1, math.MinInt, math.MinInt + 1, math.MinInt32, math.MaxInt, math.MaxInt - 1, math.MaxInt32, 1 << 32, -1 << 32}
	for at := range len(s) + 12 {
		list = append(list, at)
	}
	return list
}

// shapes returns lists of numbers, which need not be valid shapes.
func shapes() [][]int {
	return [][]int{
		nil, {}, {0}, {1}, {3}, {-1}, {-5}, {10}, {2, 3}, {3, 2}, {23}, {2, 3, 4}, {0, 0}, {0, 5}, {5, 0}, {3, -5}, {-0, -12}, {3, 5},
		{math.MaxInt}, {math.MinInt}, {math.MaxInt, math.MinInt}, {api.MaxNum}, {-api.MaxNum}, {api.MaxSize, api.MaxSize},
		{1, 2, 3, 4, 5, 6, 7, 8}, {1, 2, 3, 4, 5, 6, 7, 8, 9}, slices.Repeat([]int{0}, 40), slices.Repeat([]int{1}, 40), slices.Repeat([]int{1}, 41),
	}
}

// place is what the chapter calls the line and the column, counted byte by byte.
func place(s string, at int) (int, int) {
	line, column := 1, 1
	for i := 0; i < at && i < len(s); i++ {
		column++
		if s[i] == 10 {
			line, column = line+1, 1
		}
	}
	return line, column
}

// written is what the chapter calls a written shape.
func written(s []int) string {
	if len(s) == 0 {
		return "scalar"
	}
	var parts []string
	for _, n := range s {
		parts = append(parts, strings.ReplaceAll(strconv.Itoa(n), "-", "_"))
	}
	return strings.Join(parts, " ")
}

// description is what the chapter says that Show returns.
func description(s string, f api.Fault) string {
	if f.Kind == 0 {
		return ""
	}
	word := "unknown"
	if list := strings.Fields(named); f.Kind > 0 && int(f.Kind) < len(list) {
		word = list[f.Kind]
	}
	line, column := place(s, f.At)
	parts := []string{strconv.Itoa(line), ":", strconv.Itoa(column), ":", " ", word}
	if f.Name != "" {
		parts = append(parts, " ", f.Name)
	}
	if f.Kind >= 13 && f.Kind <= 21 {
		parts = append(parts, ":", " ", "left ", written(f.Left), ", right ", written(f.Right))
	}
	return strings.Join(parts, "")
}

// faults returns faults of all fields, with few values for each, in all combinations.
func faults() []api.Fault {
	var list []api.Fault
	for _, kind := range []api.Errno{api.OK, api.ErrName, api.ErrLength, 29, -1} {
		for _, at := range []int{0, 6, -1, math.MaxInt} {
			for _, name := range []string{"", "f", "left"} {
				for _, left := range [][]int{nil, {3}, {2, 3}} {
					for _, right := range [][]int{nil, {3}, {3, 2}} {
						list = append(list, api.Fault{Kind: kind, At: at, Left: left, Right: right, Name: name})
					}
				}
			}
		}
	}
	return list
}

// copied returns f with shapes in memory of their own, with an empty list for nil.
func copied(f api.Fault) api.Fault {
	f.Left, f.Right = append([]int{}, f.Left...), append([]int{}, f.Right...)
	return f
}

// equal reports whether all fields are equal, as text in which nil and empty shapes are alike.
func equal(a, b api.Fault) bool {
	return fmt.Sprintf("%#v", copied(a)) == fmt.Sprintf("%#v", copied(b))
}

func checkPlace(t *testing.T, s string, at, line, column int) {
	t.Helper()
	if n, m := Place(s, at); n != line || m != column {
		t.Errorf("Place(%q, %d) = %d, %d; want %d, %d", s, at, n, m, line, column)
	}
}

func checkShow(t *testing.T, s string, f api.Fault, text string) {
	t.Helper()
	if got := Show(s, f); got != text {
		t.Errorf("Show(%q, %+v) = %q; want %q", s, f, got, text)
	}
}

func checkSame(t *testing.T, a, b api.Fault, same bool) {
	t.Helper()
	if Same(a, b) != same || Same(b, a) != same {
		t.Errorf("Same(%#v, %#v) = %t, and %t the other way round; want %t", a, b, Same(a, b), Same(b, a), same)
	}
}

// callAll calls every function with the arguments, and returns all results as text.
func callAll(s string, a, b api.Fault) string {
	line, column := Place(s, a.At)
	return fmt.Sprint(Word(a.Kind), line, column, Show(s, a), Same(a, b))
}

func TestP701Pure(t *testing.T) {
	for _, f := range faults() {
		for _, g := range faults() {
			a, b := copied(f), copied(g)
			results := callAll(example, a, b)
			if !slices.Equal(a.Left, f.Left) || !slices.Equal(a.Right, f.Right) || !slices.Equal(b.Left, g.Left) || !slices.Equal(b.Right, g.Right) {
				t.Fatalf("the calls for %+v and %+v change them to %+v and %+v", f, g, a, b)
			}
			if again := callAll(example, a, b); again != results {
				t.Fatalf("the calls for %+v and %+v return %s, then %s", f, g, results, again)
			}
		}
	}
}

// A call that kept something of an earlier one would return something else after other calls.
func TestP701NoState(t *testing.T) {
	list := faults()
	var first []string
	for _, f := range list {
		first = append(first, callAll(example, f, list[7]))
	}
	for i := len(list) - 1; i >= 0; i-- {
		if got := callAll(example, list[i], list[7]); got != first[i] {
			t.Fatalf("the calls for %+v return %s, then %s", list[i], first[i], got)
		}
	}
}

func TestP701NilIsEmpty(t *testing.T) {
	for _, f := range faults() {
		for _, g := range faults() {
			if got, want := callAll(example, f, g), callAll(example, copied(f), copied(g)); got != want {
				t.Fatalf("the calls for %#v and %#v return %s; with empty lists for nil %s", f, g, got, want)
			}
		}
	}
}

// Every exported call must return for all arguments; a panic fails the test.
func TestP701AllArguments(t *testing.T) {
	numbers := []int{math.MinInt, math.MinInt32, -1, 0, 1, 21, 29, math.MaxInt32, math.MaxInt}
	for _, s := range []string{"", "\n", "x", "\xff\n\xfe", strings.Repeat("\xe2\n", 1000)} {
		for _, kind := range numbers {
			for _, at := range numbers {
				for _, list := range shapes() {
					f := api.Fault{Kind: api.Errno(kind), At: at, Left: list, Right: list, Name: s}
					if !Same(f, f) || Same(f, api.Fault{At: 5}) || (Show(s, f) == "") != (kind == 0) {
						t.Fatalf("the calls for %q and %+v return %q", s, f, Show(s, f))
					}
				}
			}
		}
	}
}

func TestP702Words(t *testing.T) {
	list := strings.Fields(named)
	if len(list) != 29 {
		t.Fatalf("there are %d words; want 29", len(list))
	}
	for i, word := range list {
		if got := Word(api.Errno(i)); got != word {
			t.Errorf("Word(%d) = %q; want %q", i, got, word)
		}
	}
}

func TestP702Chosen(t *testing.T) {
	for e, word := range map[api.Errno]string{
		api.OK: "ok", api.ErrArg: "arg", api.ErrLong: "long", api.ErrChar: "char", api.ErrDuplicate: "duplicate", api.ErrValence: "valence",
		api.ErrLength: "length", api.ErrLimit: "limit", api.ErrCalls: "calls", api.ErrSum: "sum", api.ErrNotFound: "notfound",
	} {
		if got := Word(e); got != word {
			t.Errorf("Word(%d) = %q; want %q", e, got, word)
		}
	}
}

// codes returns the constants of type Errno that package api declares, with their values.
func codes(t *testing.T) map[string]api.Errno {
	file, err := parser.ParseFile(token.NewFileSet(), "../api/api.go", nil, 0)
	if err != nil {
		t.Fatal(err)
	}
	list := map[string]api.Errno{}
	ast.Inspect(file, func(n ast.Node) bool {
		spec, ok := n.(*ast.ValueSpec)
		if !ok {
			return true
		}
		if kind, ok := spec.Type.(*ast.Ident); ok && kind.Name == "Errno" {
			value, err := strconv.Atoi(spec.Values[0].(*ast.BasicLit).Value)
			if err != nil {
				t.Fatal(err)
			}
			list[spec.Names[0].Name] = api.Errno(value)
		}
		return true
	})
	return list
}

func TestP702NamesOfConstants(t *testing.T) {
	list := codes(t)
	if len(list) != 29 {
		t.Fatalf("package api declares %d error codes; want 29", len(list))
	}
	for name, e := range list {
		if got, want := Word(e), strings.ToLower(strings.TrimPrefix(name, "Err")); got != want {
			t.Errorf("Word(%s) = %q; want %q", name, got, want)
		}
	}
}

func TestP702Unknown(t *testing.T) {
	for _, e := range strangers() {
		if got := Word(e); got != "unknown" {
			t.Errorf("Word(%d) = %q; want \"unknown\"", e, got)
		}
	}
}

func TestP703Examples(t *testing.T) {
	checkPlace(t, example, 6, 1, 7)
	checkPlace(t, "", 0, 1, 1)
	checkPlace(t, "ab\ncd\n", 0, 1, 1)
	checkPlace(t, "ab\ncd\n", 1, 1, 2)
	// A newline is the last byte of its line, so only what follows it is on the next one.
	checkPlace(t, "ab\ncd\n", 2, 1, 3)
	checkPlace(t, "ab\ncd\n", 3, 2, 1)
	checkPlace(t, "ab\ncd\n", 5, 2, 3)
	checkPlace(t, "ab\ncd\n", 6, 3, 1)
	checkPlace(t, "\n\n", 1, 2, 1)
	// Only byte 10 ends a line, and columns count bytes.
	checkPlace(t, "a\rb", 2, 1, 3)
	checkPlace(t, "a;b", 2, 1, 3)
	checkPlace(t, "é\u2028x", 5, 1, 6)
	checkPlace(t, "é", 1, 1, 2)
	checkPlace(t, "\xff\n\xff\xff", 4, 2, 3)
}

func TestP703Clamp(t *testing.T) {
	for _, at := range []int{-1, -2, -7, math.MinInt32, math.MinInt} {
		checkPlace(t, "ab\ncd", at, 1, 1)
		checkPlace(t, "\n", at, 1, 1)
		checkPlace(t, "", at, 1, 1)
	}
	for _, more := range []int{6, 7, 100, math.MaxInt32, 1 << 32, math.MaxInt} {
		checkPlace(t, "ab\ncd", more, 2, 3)
		checkPlace(t, "abcde\n", more, 2, 1)
		checkPlace(t, "", more, 1, 1)
	}
}

func TestP703AllOffsets(t *testing.T) {
	for _, s := range sources() {
		for _, at := range offsets(s) {
			line, column := place(s, at)
			checkPlace(t, s, at, line, column)
		}
	}
}

// Some texts are longer than source text may be; their lines and columns have more digits than others.
func TestP703Long(t *testing.T) {
	s := strings.Repeat("\n", 100000) + strings.Repeat("x", 200000)
	checkPlace(t, s, 99999, 100000, 1)
	checkPlace(t, s, 100000, 100001, 1)
	checkPlace(t, s, 250000, 100001, 150001)
	checkPlace(t, s, len(s), 100001, 200001)
	checkPlace(t, s, len(s)+1, 100001, 200001)
	checkShow(t, s, api.Fault{Kind: api.ErrLong, At: 250000}, "100001:150001: long")
}

func TestP704Examples(t *testing.T) {
	checkShow(t, example, api.Fault{Kind: api.ErrLength, At: 6, Left: []int{3}, Right: []int{2, 3}}, "1:7: length: left 3, right 2 3")
	checkShow(t, "1 % 0", api.Fault{Kind: api.ErrZero, At: 2}, "1:3: zero: left scalar, right scalar")
	checkShow(t, "x <- 1\nx y", api.Fault{Kind: api.ErrName, At: 9, Name: "y"}, "2:3: name y")
	checkShow(t, "\n(", api.Fault{Kind: api.ErrEnd, At: 2}, "2:2: end")
	checkShow(t, "x", api.Fault{Kind: api.ErrValence, Right: []int{0}, Name: "X"}, "1:1: valence X: left scalar, right 0")
	checkShow(t, "x", api.Fault{Kind: api.ErrLimit, Left: []int{3, -5}, Right: nil}, "1:1: limit: left 3 _5, right scalar")
	checkShow(t, "", api.Fault{Kind: 29, At: 4, Left: []int{1}, Right: []int{2}}, "1:1: unknown")
	checkShow(t, "", api.Fault{Kind: -1, Name: "n"}, "1:1: unknown n")
}

func TestP704NoError(t *testing.T) {
	for _, s := range []string{"", example, "\n\n"} {
		checkShow(t, s, api.Fault{}, "")
		checkShow(t, s, api.Fault{At: 1, Left: []int{1}, Right: []int{2, 3}, Name: "f"}, "")
	}
}

// Only the errors from ErrValence to ErrLimit show shapes, those of the budgets do not.
func TestP704Runtime(t *testing.T) {
	for e := api.ErrArg; e <= api.ErrNotFound; e++ {
		want := "1:2: " + Word(e)
		switch e {
		case api.ErrValence, api.ErrKind, api.ErrRank, api.ErrLength, api.ErrDomain, api.ErrIndex, api.ErrOverflow, api.ErrZero, api.ErrLimit:
			want += ": left 4, right 5 6"
		}
		checkShow(t, "abc", api.Fault{Kind: e, At: 1, Left: []int{4}, Right: []int{5, 6}}, want)
	}
}

func TestP704AllKinds(t *testing.T) {
	kinds := strangers()
	for e := range api.Errno(29) {
		kinds = append(kinds, e)
	}
	for _, kind := range kinds {
		for _, f := range []api.Fault{{}, {At: 9, Name: "f"}, {At: 12, Left: []int{0}}, {At: 99, Right: []int{7, 8}, Name: "avg"}} {
			f.Kind = kind
			s := "a\nbc\nd <- 5 % 0"
			checkShow(t, s, f, description(s, f))
		}
	}
}

// A name is shown as it is, whatever it holds.
func TestP704Names(t *testing.T) {
	for _, name := range []string{"", " ", "a", "twice", ":", "\n", "a b", "é", "\xff", "\x00", ": left scalar", strings.Repeat("n", 1000)} {
		for _, kind := range []api.Errno{api.ErrDuplicate, api.ErrDomain, api.ErrSteps, 1000} {
			f := api.Fault{Kind: kind, At: 3, Left: []int{1, 2}, Name: name}
			checkShow(t, example, f, description(example, f))
		}
	}
}

func TestP704AllShapes(t *testing.T) {
	for _, left := range shapes() {
		for _, right := range shapes() {
			for kind := api.ErrResult; kind <= api.ErrCalls; kind++ {
				f := api.Fault{Kind: kind, At: 2, Left: left, Right: right}
				checkShow(t, example, f, description(example, f))
			}
		}
	}
}

func TestP704AllPlaces(t *testing.T) {
	for _, s := range sources() {
		for _, at := range offsets(s) {
			for _, kind := range []api.Errno{api.OK, api.ErrChar, api.ErrIndex} {
				f := api.Fault{Kind: kind, At: at, Right: []int{2}}
				checkShow(t, s, f, description(s, f))
			}
		}
	}
}

func TestP705EachField(t *testing.T) {
	f := api.Fault{Kind: api.ErrLength, At: 6, Left: []int{3}, Right: []int{2, 3}, Name: "f"}
	checkSame(t, f, f, true)
	checkSame(t, f, copied(f), true)
	checkSame(t, f, api.Fault{Kind: api.ErrRank, At: 6, Left: []int{3}, Right: []int{2, 3}, Name: "f"}, false)
	checkSame(t, f, api.Fault{Kind: api.ErrLength, At: 7, Left: []int{3}, Right: []int{2, 3}, Name: "f"}, false)
	checkSame(t, f, api.Fault{Kind: api.ErrLength, At: 6, Left: []int{4}, Right: []int{2, 3}, Name: "f"}, false)
	checkSame(t, f, api.Fault{Kind: api.ErrLength, At: 6, Left: []int{3}, Right: []int{2, 4}, Name: "f"}, false)
	checkSame(t, f, api.Fault{Kind: api.ErrLength, At: 6, Left: []int{3}, Right: []int{2, 3}, Name: "g"}, false)
	checkSame(t, f, api.Fault{Kind: api.ErrLength, At: 6, Left: []int{2, 3}, Right: []int{3}, Name: "f"}, false)
	checkSame(t, f, api.Fault{}, false)
}

// Faults that Show describes alike may still differ.
func TestP705Unseen(t *testing.T) {
	checkSame(t, api.Fault{Kind: 29}, api.Fault{Kind: 30}, false)
	checkSame(t, api.Fault{}, api.Fault{At: 1}, false)
	checkSame(t, api.Fault{}, api.Fault{Name: " "}, false)
	checkSame(t, api.Fault{Kind: api.ErrEnd, At: -1}, api.Fault{Kind: api.ErrEnd}, false)
	checkSame(t, api.Fault{Kind: api.ErrName, Left: []int{1}}, api.Fault{Kind: api.ErrName, Left: []int{2}}, false)
	checkSame(t, api.Fault{Kind: api.ErrName, Right: []int{1}}, api.Fault{Kind: api.ErrName}, false)
	checkSame(t, api.Fault{Kind: 1}, api.Fault{Kind: 1<<32 + 1}, false)
	checkSame(t, api.Fault{At: math.MinInt}, api.Fault{At: 0}, false)
	checkSame(t, api.Fault{Name: "f"}, api.Fault{Name: "F"}, false)
	checkSame(t, api.Fault{Name: "f"}, api.Fault{Name: "f "}, false)
}

func TestP705NilIsEmpty(t *testing.T) {
	checkSame(t, api.Fault{}, api.Fault{}, true)
	checkSame(t, api.Fault{}, api.Fault{Left: []int{}, Right: []int{}}, true)
	checkSame(t, api.Fault{Left: []int{}}, api.Fault{Right: []int{}}, true)
	checkSame(t, api.Fault{Left: make([]int, 0, 9)}, api.Fault{Left: nil}, true)
	checkSame(t, api.Fault{Left: nil}, api.Fault{Left: []int{0}}, false)
	checkSame(t, api.Fault{Right: []int{}}, api.Fault{Right: []int{1}}, false)
}

func TestP705AllPairs(t *testing.T) {
	for _, f := range faults() {
		for _, g := range faults() {
			checkSame(t, f, copied(g), equal(f, g))
		}
	}
}

func TestP705AllShapes(t *testing.T) {
	list := shapes()
	for _, a := range list {
		for _, b := range list {
			same := slices.Equal(a, b)
			checkSame(t, api.Fault{Left: a}, api.Fault{Left: slices.Clone(b)}, same)
			checkSame(t, api.Fault{Right: a}, api.Fault{Right: slices.Clone(b)}, same)
			checkSame(t, api.Fault{Left: a, Right: b}, api.Fault{Left: slices.Clone(b), Right: slices.Clone(a)}, same)
		}
	}
}
