package printer

import (
	"fmt"
	goparser "go/parser"
	gotoken "go/token"
	"math/rand"
	"reflect"
	"regexp"
	"slices"
	"strconv"
	"strings"
	"testing"
	"time"

	"arraylang/api"
	"arraylang/array"
	"arraylang/parser"
	"arraylang/syntax"
	"arraylang/token"
)

// functions and operators are the names of the primitives; the operators are listed by what stands behind them.
const (
	functions = `+ - * % | ^ min max < <= = ~= >= > and or not shape reshape tally depth , stack iota take drop first reverse rotate transpose ` +
		`from pick select amend up down sort find in unique where copy expand cut encode decode box open same kind ord chr format left right`
	operators1 = `/ \ each swap outer`
	operators2 = `inner atop over`
	operators3 = `rank power stencil`
)

// prelude defines a name of each class.
const prelude = "a <- 1; f <- +; o <- {F Y}; p <- {X F G Y};\n"

// parse returns the program of s, which must have no fault.
func parse(t *testing.T, s string) api.Program {
	t.Helper()
	p, f := parser.Parse(s)
	if f.Kind != api.OK {
		t.Fatalf("Parse(%s) = %+v", shown(s), f)
	}
	return p
}

// shown returns s in quotes, or its beginning and its end if it is long.
func shown(s string) string {
	if len(s) > 600 {
		return strconv.Quote(s[:300]) + " .. " + strconv.Quote(s[len(s)-200:])
	}
	return strconv.Quote(s)
}

// check checks both calls for the program of s.
func check(t *testing.T, s, print, compact string) {
	t.Helper()
	p := parse(t, s)
	if got := Print(p); got != print {
		t.Errorf("Print of %s = %s; want %s", shown(s), shown(got), shown(print))
	}
	if got := Compact(p); got != compact {
		t.Errorf("Compact of %s = %s; want %s", shown(s), shown(got), shown(compact))
	}
}

// lines returns the lines, each with a newline behind it.
func lines(list ...string) string { return strings.Join(append(list, ""), "\n") }

// partsOf returns the parts of a valid program as the chapter defines them: each is a token of syntax.Show's text, and a break is a semicolon.
func partsOf(p api.Program) []string {
	var parts []string
	for i, s := range p.Body {
		if i > 0 {
			parts = append(parts, ";")
		}
		if s.Kind == api.SDefine {
			parts = append(parts, s.Name, "<-")
		}
		text := syntax.Show(s.Node)
		tokens, f := token.Scan(text)
		if f.Kind != api.OK {
			panic("the text of the statement is too long for the test")
		}
		for _, one := range tokens {
			parts = append(parts, text[one.At:one.At+one.Len])
		}
	}
	return parts
}

// touching matches two parts with a line feed between them that need a blank. No part contains a line feed.
var touching = regexp.MustCompile(`[A-Za-z0-9_]\n[A-Za-z0-9_]|<\n[=-]|>\n=`)

// expect returns what both calls must return for p, by the chapter's words.
func expect(p api.Program) (print, compact string) {
	if syntax.Right(p) != api.OK || len(p.Body) == 0 {
		return "", ""
	}
	parts, level := partsOf(p), 0
	for i, part := range parts {
		if part == ";" {
			print, compact = print+"\n"+strings.Repeat(" ", 2*level), compact+";"
			continue
		}
		if i > 0 && parts[i-1] != ";" {
			print += " "
			if touching.MatchString(parts[i-1] + "\n" + part) {
				compact += " "
			}
		}
		print, compact = print+part, compact+part
		level += map[string]int{"{": 1, "}": -1}[part]
	}
	return print + "\n", compact
}

// checkModel checks both calls for p against the chapter's words.
func checkModel(t *testing.T, p api.Program) {
	t.Helper()
	print, compact := expect(p)
	if got := Print(p); got != print {
		t.Errorf("Print = %s; want %s", shown(got), shown(print))
	}
	if got := Compact(p); got != compact {
		t.Errorf("Compact = %s; want %s", shown(got), shown(compact))
	}
}

// checkRoundTrip checks that both texts of p, which must be short enough, are parsed to p, and have the same tokens.
func checkRoundTrip(t *testing.T, p api.Program) {
	t.Helper()
	print, compact := Print(p), Compact(p)
	for _, text := range []string{print, compact} {
		again, f := parser.Parse(text)
		if f.Kind != api.OK || !syntax.SameProgram(again, p) {
			t.Errorf("parsing %s gives another program: %+v", shown(text), f)
		}
	}
	checkTokens(t, print, compact)
}

// checkTokens checks that two texts, one by Print and one by Compact, have the same tokens apart from the last break of the first one.
func checkTokens(t *testing.T, print, compact string) {
	t.Helper()
	if len(compact) > len(print) {
		t.Errorf("%s is longer than %s", shown(compact), shown(print))
	}
	long, f := token.Scan(print)
	short, g := token.Scan(compact)
	if f.Kind != api.OK || g.Kind != api.OK {
		t.Fatalf("Scan(%s) = %+v, Scan(%s) = %+v", shown(print), f, shown(compact), g)
	}
	if last := len(long) - 1; last >= 0 {
		if long[last].Kind != api.TBreak {
			t.Errorf("%s does not end with a break", shown(print))
		}
		long = long[:last]
	}
	isSame := func(a, b api.Token) bool {
		a.At, b.At = 0, 0
		return a == b
	}
	if !slices.EqualFunc(long, short, isSame) {
		t.Errorf("the tokens of %s and %s differ", shown(print), shown(compact))
	}
}

// rules are the ways to write what stands in brackets: array1 is a single primary, function0 and array0 contain nothing that nests. What is written depends on the innermost lambda: y, f and g are what it may mention, or a literal and primitives.
var rules = map[string][]string{
	"array0":    {"1", "_20", "0", "'a'", "'\\''", `"s ; { \" \\ } "`, `""`, "arg", "a", "[y]", "[y]"},
	"array1":    {"[array0]", "([array])", "([strand])"},
	"strand":    {"[array1] [array1]", "[array1] [array1] [array1]", "[array1] [strand]"},
	"array":     {"[array0]", "[strand]", "[function] [array]", "[array1] [function] [array]", "[strand] [function] [array]", "([array]) [function] [array]"},
	"function0": {"+", "-", "<", "<=", "=", "~=", ">=", ">", "|", ",", "iota", "max", "f", "[f]", "[f]"},
	"function":  {"[function0]", "[function0]", "[function] [op1]", "[function] [op2] [function0]", "[function] [op2] ([function])", "[function0] [op3] [array1]", "([train])", "{[@f body]}"},
	"train":     {"[function]", "[function] [function]", "[function] [function] [function]", "[array1] [function] [function]", "[function] [train]", "([train]) [train]"},
	"op1":       {"/", "\\", "each", "swap", "outer", "o", "{[@1 body] ; F Y}"},
	"op2":       {"inner", "atop", "over", "p", "{[@2 body] ; F G Y}"},
	"op3":       {"rank", "power", "stencil"},
	"body":      {"[array]", "[array]; [array]", "[array] : [array]; [array]", "a <- [array]; a", "f <- [train]\n o <- {[@1 body]; F 1}; f o [array]", "[array]\n\n[array] : [array];[array];"},
	"program":   {"[array]", "[array];;[array]", "b <- [array]\nh <- [train]; k <- {[@1 body]; F 2}; b h k b", "h <- {[@f body]}; h [array]; {[@f body]} [array]", ""},
	"y":         {"2"}, "f": {"%"},
	"y f": {"X", "Y"}, "f f": {"self"},
	"y 1": {"X", "Y"}, "f 1": {"self", "F"},
	"y 2": {"X", "Y"}, "f 2": {"self", "F", "G"},
}

var inBrackets = regexp.MustCompile(`\[[^]]*]`)

// write returns a random text for a word of the rules in a lambda of the given class, or outside lambdas.
func write(random *rand.Rand, word, class string, deep int) string {
	if lambda, ok := strings.CutPrefix(word, "@"); ok {
		class, word, _ = strings.Cut(lambda, " ")
	}
	if flat := strings.TrimSuffix(word, "1") + "0"; deep <= 0 && rules[flat] != nil {
		word = flat
	}
	list := rules[word+" "+class]
	if list == nil {
		list = rules[word]
	}
	return inBrackets.ReplaceAllStringFunc(list[random.Intn(len(list))], func(inner string) string {
		return write(random, inner[1:len(inner)-1], class, deep-1)
	})
}

// programs returns random programs.
func programs(t *testing.T, count int) []api.Program {
	t.Helper()
	random := rand.New(rand.NewSource(13))
	var list []api.Program
	for i := range count {
		s := prelude + write(random, "program", "", i%9)
		if len(s) < 5000 {
			list = append(list, parse(t, s))
		}
	}
	if len(list) < count/2 {
		t.Fatalf("only %d programs are short enough", len(list))
	}
	return list
}

// nodes calls visit with each node of the statements, and statement with each statement.
func nodes(body []api.Stmt, visit func(n *api.Node), statement func(s *api.Stmt)) {
	var within func(n *api.Node)
	within = func(n *api.Node) {
		visit(n)
		for i := range n.Kids {
			within(&n.Kids[i])
		}
		nodes(n.Body, visit, statement)
	}
	for i := range body {
		statement(&body[i])
		within(&body[i].Test)
		within(&body[i].Node)
	}
}

// literal returns a program that consists of a literal.
func literal(a api.Array) api.Program {
	return api.Program{Body: []api.Stmt{{Kind: api.SExpr, Node: api.Node{Kind: api.NLiteral, Class: api.ArrayClass, Value: a}}}}
}

// inTime fails if the call takes long.
func inTime(t *testing.T, call func()) {
	t.Helper()
	start := time.Now()
	call()
	if took := time.Since(start); took > 10*time.Second {
		t.Errorf("the calls take %v", took)
	}
}

// A call that kept something of an earlier one would return something else after other calls.
func TestP1301Pure(t *testing.T) {
	list, again := programs(t, 300), programs(t, 300)
	var first []string
	for _, p := range list {
		first = append(first, Print(p)+Compact(p))
	}
	for i := len(list) - 1; i >= 0; i-- {
		if got := Print(list[i]) + Compact(list[i]); got != first[i] {
			t.Errorf("the calls return %s, then %s", shown(first[i]), shown(got))
		}
	}
	if !reflect.DeepEqual(list, again) {
		t.Error("the calls change their arguments")
	}
}

// Offsets and slots have no influence, and nil and empty lists are the same.
func TestP1301Unseen(t *testing.T) {
	random := rand.New(rand.NewSource(1))
	for _, p := range programs(t, 300) {
		print, compact := Print(p), Compact(p)
		nodes(p.Body, func(n *api.Node) {
			if n.Kind == 0 {
				return // The Test of a statement that is not a guard.
			}
			n.At, n.Depth, n.Slot, n.Slots = random.Intn(99), random.Intn(99), random.Intn(99), random.Intn(99)
			if len(n.Kids) == 0 && len(n.Body) == 0 {
				n.Kids, n.Body = []api.Node{}, []api.Stmt{}
			}
		}, func(s *api.Stmt) {
			s.At = random.Intn(99)
			if s.Kind == api.SDefine {
				s.Slot = random.Intn(99)
			}
		})
		if again := Print(p); again != print {
			t.Errorf("Print = %s; want %s", shown(again), shown(print))
		}
		if again := Compact(p); again != compact {
			t.Errorf("Compact = %s; want %s", shown(again), shown(compact))
		}
	}
	if s := Print(api.Program{Body: []api.Stmt{}}) + Compact(api.Program{Body: []api.Stmt{}}); s != "" {
		t.Errorf("the texts of no statements are %s", shown(s))
	}
}

// invalid returns programs that are not valid, with the errors that they have.
func invalid(t *testing.T) map[string]api.Program {
	good := func(s string) api.Program { return parse(t, s) }
	changed := func(s string, change func(p *api.Program)) api.Program {
		p := good(s)
		change(&p)
		return p
	}
	return map[string]api.Program{
		"ErrLong":           {Body: make([]api.Stmt, api.MaxStmts+1)},
		"ErrLong valid":     changed(strings.Repeat("1;", api.MaxStmts), func(p *api.Program) { p.Body = append(p.Body, p.Body[0]) }),
		"ErrDeep":           changed(strings.Repeat("-", api.MaxDeep-1)+"1", func(p *api.Program) { p.Body[0].Node.Kids[1] = p.Body[0].Node }),
		"ErrDeep in second": changed("1;"+strings.Repeat("-", api.MaxDeep-1)+"1", func(p *api.Program) { p.Body[1].Node.Kids[1] = p.Body[1].Node }),
		"ErrLimit":          changed(strings.Repeat(strings.Repeat("-", 16)+"1;", 496)+strings.Repeat("1;", 16), func(p *api.Program) { p.Body = append(p.Body, p.Body[511]) }),
		"ErrClass function": changed("1", func(p *api.Program) { p.Body[0].Node = good("f <- +").Body[0].Node }),
		"ErrClass guard":    changed("{1 : 2; 3} 4", func(p *api.Program) { p.Body = p.Body[0].Node.Kids[0].Body }),
		"ErrClass argument": changed("{Y} 4", func(p *api.Program) { p.Body = p.Body[0].Node.Kids[0].Body }),
		"ErrClass operand":  changed("f <- {F 1}", func(p *api.Program) { p.Body[0].Node = p.Body[0].Node.Body[0].Node }),
		"ErrClass kind":     changed("1; 2", func(p *api.Program) { p.Body[1].Kind = 0 }),
		"ErrClass name":     changed("a <- 1", func(p *api.Program) { p.Body[0].Name = "A" }),
		"ErrClass reserved": changed("a <- 1", func(p *api.Program) { p.Body[0].Name = "iota" }),
		"ErrClass twice":    changed("a <- 1; b <- 2", func(p *api.Program) { p.Body[1].Name = "a" }),
		"ErrClass offset":   changed("1", func(p *api.Program) { p.Body[0].At = -1 }),
		"ErrClass literal":  literal(array.Vector(1, 2)),
		"ErrClass number":   literal(array.Scalar(api.MaxNum + 1)),
		"ErrClass surplus":  changed("1 ; 2", func(p *api.Program) { p.Body[0].Node.Text = "a" }),
		"ErrClass lambda":   changed("{1} 2", func(p *api.Program) { p.Body[0].Node.Kids[0].Body = nil }),
		"ErrClass inside":   changed("1 + 2; 3 - {4 , Y} 5", func(p *api.Program) { p.Body[1].Node.Kids[0].Class = api.ArrayClass }),
		"ErrClass strand":   changed("1 2", func(p *api.Program) { p.Body[0].Node.Kids = p.Body[0].Node.Kids[:1] }),
		"ErrClass zero":     {Body: make([]api.Stmt, 1)},
	}
}

func TestP1301Invalid(t *testing.T) {
	errors := map[string]api.Errno{"ErrLong": api.ErrLong, "ErrDeep": api.ErrDeep, "ErrLimit": api.ErrLimit, "ErrClass": api.ErrClass}
	for name, p := range invalid(t) {
		kind, _, _ := strings.Cut(name, " ")
		if e := syntax.Right(p); e != errors[kind] {
			t.Errorf("Right of %s = %d", name, e)
		}
		if print, compact := Print(p), Compact(p); print != "" || compact != "" {
			t.Errorf("the texts of %s are %s and %s", name, shown(print), shown(compact))
		}
	}
}

// A program that is changed in one place is either not valid, or has another text or the same one.
func TestP1301Changed(t *testing.T) {
	random := rand.New(rand.NewSource(2))
	bad, good := 0, 0
	for _, p := range programs(t, 4000) {
		var all []*api.Node
		var statements []*api.Stmt
		nodes(p.Body, func(n *api.Node) { all = append(all, n) }, func(s *api.Stmt) { statements = append(statements, s) })
		n, m, s := all[random.Intn(len(all))], all[random.Intn(len(all))], statements[random.Intn(len(statements))]
		switch random.Intn(9) {
		case 0:
			n.Kind = api.NodeKind(random.Intn(19))
		case 1:
			n.Class = api.Class(random.Intn(6))
		case 2:
			n.Prim = api.Prim(random.Intn(57))
		case 3:
			n.Op = api.Op(random.Intn(13))
		case 4:
			n.Text = []string{"", "a", "b9", "A", "arg", "9"}[random.Intn(6)]
		case 5:
			n.Value = []api.Array{array.Scalar(7), array.Text("t"), array.Vector(1, 2), {}, {Kind: api.Char, Nums: []int{-1}}, array.Text("\n'\"")}[random.Intn(6)]
		case 6:
			*n = api.Node{Kind: m.Kind, Class: m.Class, Text: m.Text, Prim: m.Prim, Op: m.Op, Value: m.Value}
		case 7:
			s.Kind = api.StmtKind(random.Intn(5))
		default:
			s.Name = []string{"", "a", "b", "self", "x", "0"}[random.Intn(6)]
		}
		if syntax.Right(p) == api.OK {
			good++
		} else {
			bad++
		}
		checkModel(t, p)
	}
	if good < 300 || bad < 300 {
		t.Errorf("%d programs are valid and %d are not", good, bad)
	}
}

// Every call must return for all arguments; a panic fails the test.
func TestP1301Ends(t *testing.T) {
	kids := make([]api.Node, 2)
	for i := range kids {
		kids[i] = api.Node{Kind: api.NStrand, Class: api.ArrayClass, Kids: kids}
	}
	body := make([]api.Stmt, 2)
	for i := range body {
		body[i] = api.Stmt{Kind: api.SExpr, Node: api.Node{Kind: api.NLambda, Class: api.FunClass, Body: body}}
	}
	shared := api.Node{Kind: api.NLiteral, Class: api.ArrayClass, Value: array.Scalar(1)}
	for range api.MaxDeep - 1 {
		shared = api.Node{Kind: api.NStrand, Class: api.ArrayClass, Kids: []api.Node{shared, shared}}
	}
	items := make([]api.Array, 1)
	items[0] = api.Array{Kind: api.Boxed, Items: items}
	inTime(t, func() {
		for i, p := range []api.Program{{Body: []api.Stmt{{Kind: api.SExpr, Node: kids[0]}}}, {Body: body}, {Body: []api.Stmt{{Kind: api.SExpr, Node: shared}}}, literal(items[0])} {
			if s := Print(p) + Compact(p); s != "" {
				t.Errorf("the texts of program %d are %s", i, shown(s))
			}
		}
	})
}

// The package uses only the layer that the document lists for it.
func TestP1301Imports(t *testing.T) {
	file, err := goparser.ParseFile(gotoken.NewFileSet(), "printer.go", nil, goparser.ImportsOnly)
	if err != nil {
		t.Fatal(err)
	}
	for _, spec := range file.Imports {
		path := strings.Trim(spec.Path.Value, `"`)
		if strings.HasPrefix(path, "arraylang/") && path != "arraylang/api" && path != "arraylang/syntax" {
			t.Errorf("the package imports %s", path)
		}
	}
}

func TestExamples(t *testing.T) {
	check(t, "avg <- +/ % tally ; avg {Y * 2 ; Y + 1} 3 4", "avg <- + / % tally\navg { Y * 2\n  Y + 1 } 3 4\n", "avg<-+/%tally;avg{Y*2;Y+1}3 4")
	check(t, "f <- < =", "f <- < =\n", "f<-< =")
}

func TestP1302Breaks(t *testing.T) {
	for _, c := range [][3]string{
		{"", "", ""},
		{" ;\n; # c", "", ""},
		{"1", "1\n", "1"},
		{";1;;2;", lines("1", "2"), "1;2"},
		{"a <- 1\nb <- 2", lines("a <- 1", "b <- 2"), "a<-1;b<-2"},
		{"{1}2", lines("{ 1 } 2"), "{1}2"},
		{"{1;2}3;4", lines("{ 1", "  2 } 3", "4"), "{1;2}3;4"},
		{"{;1;;2;}3", lines("{ 1", "  2 } 3"), "{1;2}3"},
		{"{{1;2}3;4}5;6", lines("{ { 1", "    2 } 3", "  4 } 5", "6"), "{{1;2}3;4}5;6"},
		{"{1;{2;{3;4}5;6}7;8}9", lines("{ 1", "  { 2", "    { 3", "      4 } 5", "    6 } 7", "  8 } 9"), "{1;{2;{3;4}5;6}7;8}9"},
		{"f<-{g<-{Y;X};1 g Y};f 2", lines("f <- { g <- { Y", "    X }", "  1 g Y }", "f 2"), "f<-{g<-{Y;X};1 g Y};f 2"},
		{"{Y<2:1;Y*self Y-1}5", lines("{ Y < 2 : 1", "  Y * self Y - 1 } 5"), "{Y<2:1;Y*self Y-1}5"},
		{"{{1;2}Y:{3;4}5;6}7", lines("{ { 1", "    2 } Y : { 3", "    4 } 5", "  6 } 7"), "{{1;2}Y:{3;4}5;6}7"},
		{"{1;2}{3;4}5", lines("{ 1", "  2 } { 3", "  4 } 5"), "{1;2}{3;4}5"},
		{"o<-{F 1;2};+o 3", lines("o <- { F 1", "  2 }", "+ o 3"), "o<-{F 1;2};+o 3"},
		{"p<-{F G Y;1};+p(-p*)2", lines("p <- { F G Y", "  1 }", "+ p ( - p * ) 2"), "p<-{F G Y;1};+p(-p*)2"},
		{"+{F Y;1}each 2", lines("+ { F Y", "  1 } each 2"), "+{F Y;1}each 2"},
		{"((1)) ((2 3))", lines("1 ( 2 3 )"), "1(2 3)"},
		{"({1;2})3", lines("{ 1", "  2 } 3"), "{1;2}3"},
		{"(1 {2;X} 3) 4", lines("( 1 { 2", "  X } 3 ) 4"), "(1{2;X}3)4"},
	} {
		check(t, c[0], c[1], c[2])
	}
}

// Every level has two blanks, to the greatest one. A lambda that is applied is two nodes deeper than the one around it, one that is defined only one.
func TestP1302Levels(t *testing.T) {
	for levels := 1; levels < api.MaxDeep; levels++ {
		s := strings.Repeat("f<-{", levels) + "2}" + strings.Repeat(";1}", levels-1)
		list := []string{strings.Repeat("f <- { ", levels) + "2 }"}
		for level := levels - 1; level > 0; level-- {
			list = append(list, strings.Repeat(" ", 2*level)+"1 }")
		}
		check(t, s, lines(list...), s)
	}
	for levels := range api.MaxDeep / 2 {
		s := strings.Repeat("{1;", levels) + "2" + strings.Repeat("}3", levels)
		list := []string{}
		for level := range levels {
			list = append(list, strings.Repeat(" ", 2*level)+"{ 1")
		}
		list = append(list, strings.Repeat(" ", 2*levels)+"2"+strings.Repeat(" } 3", levels))
		check(t, s, lines(list...), s)
	}
}

// In literals nothing is a blank, a break, a brace or a parenthesis.
func TestP1302Literals(t *testing.T) {
	for _, word := range []string{`' '`, `';'`, `'{'`, `'}'`, `'"'`, `'\''`, `'\\'`, `'\n'`, `"'"`, `" "`, `"  "`, `""`, `";"`, `"; "`, `" ; "`, `"{"`, `" { "`, `"}"`, `"\""`, `"\\"`, `" \\"`, `"\\ "`, `"\\\""`, `"\" "`, `"\" ; \\"`, `"( ) <- 1"`, `"\n"`, `"\t;\r"`, `"\u{7} \u{7f}"`, `"é ü 😀 ;"`, `"1 2"`, `"# 1"`} {
		check(t, word, word+"\n", word)
		check(t, word+","+word+";"+word, lines(word+" , "+word, word), word+","+word+";"+word)
		check(t, word+" "+word+" (arg) 1 "+word, lines(word+" "+word+" arg 1 "+word), word+word+"arg 1"+word)
		check(t, "{"+word+";"+word+"}"+word, lines("{ "+word, "  "+word+" } "+word), "{"+word+";"+word+"}"+word)
		check(t, "a<-"+word+";{("+word+"+1)2:"+word+";"+word+"}a", lines("a <- "+word, "{ ( "+word+" + 1 ) 2 : "+word, "  "+word+" } a"), "a<-"+word+";{("+word+"+1)2:"+word+";"+word+"}a")
	}
}

// All short strings of the characters that mean something elsewhere.
func TestP1302AllStrings(t *testing.T) {
	list := []string{""}
	for i := 0; i < len(list); i++ {
		if s := list[i]; len(s) < 4 {
			for _, c := range "\"'\\ ;{}\na" {
				list = append(list, s+string(c))
			}
		}
	}
	for _, s := range list {
		word := strings.NewReplacer(`\`, `\\`, `"`, `\"`, "\n", `\n`).Replace(s)
		check(t, `"`+word+`" 1;{"`+word+`";2}3`, lines(`"`+word+`" 1`, `{ "`+word+`"`, `  2 } 3`), `"`+word+`"1;{"`+word+`";2}3`)
	}
}

// All characters, each as a scalar and within a vector.
func TestP1302AllCharacters(t *testing.T) {
	var kids []api.Node
	for c := 0; c <= api.MaxRune; c++ {
		if c < 0xD800 || c > 0xDFFF {
			kids = append(kids, literal(api.Array{Kind: api.Char, Nums: []int{c}}).Body[0].Node, literal(array.Text(string(rune(c)) + ";")).Body[0].Node)
		}
		if len(kids) == api.MaxStrand || c == api.MaxRune {
			p := api.Program{Body: []api.Stmt{{Kind: api.SExpr, Node: api.Node{Kind: api.NStrand, Class: api.ArrayClass, Kids: kids}}}}
			text := syntax.Show(p.Body[0].Node)
			if got := Print(p); got != text+"\n" {
				t.Fatalf("Print = %s; want %s", shown(got), shown(text))
			}
			tokens, _ := token.Scan(text)
			var words strings.Builder
			for _, one := range tokens {
				words.WriteString(text[one.At : one.At+one.Len])
			}
			if got := Compact(p); got != words.String() || len(tokens) != len(kids) {
				t.Fatalf("Compact = %s; want %s", shown(got), shown(words.String()))
			}
			kids = nil
		}
	}
}

func TestP1302Random(t *testing.T) {
	for _, p := range programs(t, 5000) {
		checkModel(t, p)
	}
}

func TestP1303Blanks(t *testing.T) {
	for s, want := range map[string]string{
		"1 2": "1 2", "1 _2": "1 _2", "_1 _2": "_1 _2", "1 'a'": "1'a'", "'a' 1": "'a'1", `"a" "b"`: `"a""b"`, `'a' "b" 'c'`: `'a'"b"'c'`, `"<" = ">"`: `"<"=">"`, `'<' - '>'`: `'<'-'>'`,
		"1 arg": "1 arg", "arg 1": "arg 1", "arg _1": "arg _1", "arg arg": "arg arg", "(1) 2": "1 2", "(1 2) 3": "(1 2)3", "1 (2 3)": "1(2 3)", "(1 2) (3 4)": "(1 2)(3 4)",
		"1 + 2": "1+2", "1 - _2": "1-_2", "- - 1": "--1", "1 < - 2": "1< -2", "1 < = 2": "1< =2", "1 < <= 2": "1<<=2", "1 < _2": "1<_2", "1 <= - 2": "1<=-2", "1 <= = 2": "1<==2", "1 = = 2": "1==2", "1 > = 2": "1> =2", "1 > - 2": "1>-2", "1 >= = 2": "1>==2", "1 > > 2": "1>>2",
		"1 < < 2": "1<<2", "1 ~= = 2": "1~==2", "1 = ~= 2": "1=~=2", "1 < ~= 2": "1<~=2", "1 > ~= 2": "1>~=2", "1 < >= 2": "1<>=2", "1 > <= 2": "1><=2", "1 = < 2": "1=<2", "1 - < 2": "1-<2", "1 = > 2": "1=>2", "1 < (- =) 2": "1<(-=)2",
		"1 max 2": "1 max 2", "1 max _2": "1 max _2", "iota 3": "iota 3", "iota iota 3": "iota iota 3", "iota + 3": "iota+3", "1 + iota 2": "1+iota 2", "max / 1": "max/1", "+ each 1": "+each 1", "+ each - 1": "+each-1", "max each iota 2": "max each iota 2", `iota "a"`: `iota"a"`, "iota (1 2) 3": "iota(1 2)3",
		"+ / \\ 1": "+/\\1", "+ inner - 1": "+inner-1", "+ rank 0 1": "+rank 0 1", "+ rank _1 1": "+rank _1 1", "+ rank (0 1) 2": "+rank(0 1)2", "+ atop (- /) 1": "+atop(-/)1", "< / = 1": "</=1", "> atop = 2": ">atop=2",
		"f <- < -": "f<-< -", "f <- > =": "f<-> =", "f <- < =": "f<-< =", "f <- - <": "f<--<", "f <- =": "f<-=", "f <- -": "f<--", "f <- <": "f<-<", "a <- _1": "a<-_1", "a <- 1": "a<-1", "f <- < - =": "f<-< -=", "f <- < (- =)": "f<-<(-=)", "f <- < ; g <- -": "f<-<;g<--", "f <- <;= 1": "f<-<;=1",
		"{Y} 1": "{Y}1", "1 {X} 2": "1{X}2", "{X Y} 1": "{X Y}1", "{X _1} 1": "{X _1}1", "{X self Y} 1": "{X self Y}1", "{_1 Y} 1": "{_1 Y}1", "{Y : Y ; Y} 1": "{Y:Y;Y}1", "{X < Y} 1": "{X<Y}1", "{X < - Y} 1": "{X< -Y}1", "- {1 : _1 ; _1} - 1": "-{1:_1;_1}-1", "{Y} / 1": "{Y}/1", "+ {F Y} 1": "+{F Y}1", "+ {F G Y} - 1": "+{F G Y}-1", "iota {F Y} 1": "iota{F Y}1",
		"a <- 1 ; a a": "a<-1;a a", "a <- 1 ; a _1": "a<-1;a _1", "a <- 1 ; a < - a": "a<-1;a< -a", "a1 <- 1 ; a1 2 'a' a1": "a1<-1;a1 2'a'a1", "a <- 1 ; {a} 1 ; a": "a<-1;{a}1;a", "f <- + ; f 1 ; 1 f 2 ; - f (f /) 2": "f<-+;f 1;1 f 2;-f f/2", "f <- + ; g <- (f - f)": "f<-+;g<-f-f",
	} {
		if got := Compact(parse(t, s)); got != want {
			t.Errorf("Compact of %s = %s; want %s", shown(s), shown(got), shown(want))
		}
	}
}

// All pairs of parts that can stand side by side in an expression.
func TestP1303AllPairs(t *testing.T) {
	arrays := []string{"1", "_1", "20", "'a'", `"s"`, `' '`, "arg", "a", "X", "Y", "(1 2)", "(- 1)"}
	funs := append(strings.Fields(functions), "f", "self", "{Y}", "(- *)")
	op1s := append(strings.Fields(operators1), "o", "{F Y}")
	op2s := append(strings.Fields(operators2), "p", "{G Y}")
	var bodies []string
	pairs := func(first, second []string, form string) {
		for _, one := range first {
			for _, other := range second {
				bodies = append(bodies, strings.NewReplacer("@", one, "$", other).Replace(form))
			}
		}
	}
	pairs(arrays, arrays, "@ $")
	pairs(arrays, funs, "@ $ @")
	pairs(arrays, funs, "$ @")
	pairs(arrays, funs, "@ : @ ; (@ $ $) 1")
	pairs(funs, funs, "@ $ 1")
	pairs(funs, funs, "g <- @ $ ; 1")
	pairs(funs, op1s, "@ $ 1")
	pairs(funs, op1s, "- $ @ 1")
	pairs(op1s, op1s, "- @ $ 1")
	pairs(op1s, arrays, "- @ $")
	pairs(funs, op2s, "@ $ @ 1")
	pairs(op1s, op2s, "- @ $ - @ 1")
	pairs(funs, strings.Fields(operators3), "@ $ 1 2")
	pairs(arrays, strings.Fields(operators3), "- $ @ 1")
	pairs(arrays, op1s, "- rank @ $ 2")
	for _, body := range bodies {
		p := parse(t, prelude+"{"+body+"} 1")
		checkModel(t, p)
		if !strings.ContainsAny(body, "XYs") {
			checkModel(t, parse(t, prelude+strings.ReplaceAll(body, ":", ",")))
		}
	}
}

// Only the parts of a text by Compact that need a blank have one, and nothing else is between parts.
func TestP1303Random(t *testing.T) {
	blanks := 0
	for _, p := range programs(t, 5000) {
		text := Compact(p)
		tokens, f := token.Scan(text)
		if f.Kind != api.OK || text == "" {
			t.Fatalf("Scan(%s) = %+v", shown(text), f)
		}
		end, before := 0, ";"
		for _, one := range tokens {
			word, between := text[one.At:one.At+one.Len], text[end:one.At]
			if between != "" && (between != " " || !touching.MatchString(before+"\n"+word)) {
				t.Errorf("between %s and %s is %s in %s", before, word, shown(between), shown(text))
			}
			blanks += len(between)
			end, before = one.At+one.Len, word
		}
		if end != len(text) || strings.Contains(before, "\n") {
			t.Errorf("behind the last part of %s is %s", shown(text), shown(text[end:]))
		}
	}
	if blanks < 10000 {
		t.Errorf("only %d blanks were found", blanks)
	}
}

func TestP1304RoundTrip(t *testing.T) {
	for _, p := range programs(t, 5000) {
		checkRoundTrip(t, p)
	}
}

// Every sequence of these parts that is a program.
func TestP1304AllSequences(t *testing.T) {
	parts, count := []string{"1", "_2", "'a'", "-", "=", "<", ">", "/", "rank", "inner", "a", "f", "(", ")", ";"}, 0
	var extend func(s string, length int)
	extend = func(s string, length int) {
		if p, f := parser.Parse(prelude + s); f.Kind == api.OK {
			count++
			checkRoundTrip(t, p)
		}
		if length > 0 {
			for _, part := range parts {
				extend(s+" "+part, length-1)
			}
		}
	}
	extend("", 4)
	extend("g <-", 3)
	extend("{ Y", 3)
	if count < 5000 {
		t.Errorf("only %d sequences are programs", count)
	}
}

// Programs at the limits.
func TestP1304Limits(t *testing.T) {
	var definitions strings.Builder
	for i := range api.MaxStmts {
		definitions.WriteString("a" + strconv.Itoa(i) + "<-1;")
	}
	deep := strings.Repeat("-", 57)
	for _, s := range []string{
		strings.Repeat("1;", api.MaxStmts), "f<-{" + strings.Repeat("1;", api.MaxStmts) + "}", definitions.String(), strings.Repeat("1 ", api.MaxStrand), strings.Repeat("1 ", api.MaxStrand) + "+" + strings.Repeat(" 1", api.MaxStrand),
		deep + "--1", "{" + deep + "1}4", "{" + deep + "1:2;3}4", "{1:" + deep + "2;3}4", "{a<-" + deep + "2;3}4", "f<-" + strings.Repeat("(", 59) + "- =" + strings.Repeat(") <", 58) + ")", "f<-+" + strings.Repeat("/", 59), "f<-{f<-" + strings.Repeat("{f<-", 57) + "-<=" + strings.Repeat(";1}", 58),
		strings.Repeat("(", 60) + "1" + strings.Repeat(")", 60), strings.Repeat(strings.Repeat("-", 16)+"1;", 496) + strings.Repeat("1;", 16), `"` + strings.Repeat("a", api.MaxText-3) + `"`, `"` + strings.Repeat(`\"`, api.MaxText/2-2) + `"`,
		strings.Repeat("abcdefghijklmnopqrstuvwxyz012345", 1) + "<-1;abcdefghijklmnopqrstuvwxyz012345", "_" + strconv.Itoa(api.MaxNum), strconv.Itoa(api.MaxNum),
	} {
		p := parse(t, s)
		if len(Print(p)) > api.MaxText {
			t.Errorf("the text of %s is too long", shown(s))
		}
		checkRoundTrip(t, p)
	}
}

// Texts may be longer than what can be parsed.
func TestP1304Long(t *testing.T) {
	most := strings.Repeat("1;", api.MaxStmts-1) + "2"
	s := strings.Repeat("{", 25) + most + strings.Repeat("}3", 25) + ";4"
	print := strings.Repeat("{ ", 25) + strings.ReplaceAll(most, ";", "\n"+strings.Repeat(" ", 50)) + strings.Repeat(" } 3", 25)
	check(t, s, lines(print, "4"), s)
	check(t, "a<-"+s+";"+s, lines("a <- "+print, "4", print, "4"), "a<-"+s+";"+s)
	if 2*len(print) <= api.MaxText {
		t.Error("the text of these statements is too short")
	}
	word := `"` + strings.Repeat(`\u{7}`, api.MaxText/5-1) + `"`
	check(t, word, word+"\n", word)
	// A source can't contain such a string, since each of its characters is an escape.
	long := literal(array.Text(strings.Repeat("\x01", api.MaxSize)))
	word = `"` + strings.Repeat(`\u{1}`, api.MaxSize) + `"`
	if Print(long) != word+"\n" || Compact(long) != word {
		t.Error("the texts of a long string are wrong")
	}
	inTime(t, func() {
		long.Body[0].Node = api.Node{Kind: api.NStrand, Class: api.ArrayClass, Kids: slices.Repeat([]api.Node{long.Body[0].Node}, 100)}
		want := strings.Repeat(word+" ", 99) + word
		if Print(long) != want+"\n" || Compact(long) != strings.Repeat(word, 100) {
			t.Error("the texts of many long strings are wrong")
		}
	})
}

// P1305 holds for all valid programs, also for those that the parser does not return.
func TestP1305NotParsed(t *testing.T) {
	name := func(s string, class api.Class) api.Node { return api.Node{Kind: api.NName, Class: class, Text: s} }
	one := literal(array.Scalar(-1)).Body[0].Node
	derived := api.Node{Kind: api.NDerive2, Class: api.FunClass, Kids: []api.Node{name("p", api.Op2Class), name("f", api.FunClass), name("f", api.FunClass)}}
	p := api.Program{Body: []api.Stmt{
		{Kind: api.SExpr, Node: api.Node{Kind: api.NMonad, Class: api.ArrayClass, Kids: []api.Node{derived, one}}},
		{Kind: api.SDefine, Name: "g", Node: api.Node{Kind: api.NTrain, Class: api.FunClass, Kids: []api.Node{derived, name("f", api.FunClass)}}},
		{Kind: api.SExpr, Node: name("none", api.ArrayClass)},
	}}
	print, compact := Print(p), Compact(p)
	if print != lines("f p f _1", "g <- f p f f", "none") || compact != "f p f _1;g<-f p f f;none" {
		t.Errorf("the texts are %s and %s", shown(print), shown(compact))
	}
	checkTokens(t, print, compact)
}

func TestP1305Changed(t *testing.T) {
	random := rand.New(rand.NewSource(5))
	for _, p := range programs(t, 2000) {
		nodes(p.Body, func(n *api.Node) {
			switch {
			case random.Intn(3) > 0:
			case n.Kind == api.NPrim:
				n.Prim = api.Prim(1 + random.Intn(55))
			case n.Kind == api.NName:
				n.Text = fmt.Sprint("z", random.Intn(1000))
			case n.Kind == api.NLiteral:
				n.Value = []api.Array{array.Scalar(-random.Intn(99)), array.Text("\"\\ ' ;"), {Kind: api.Char, Nums: []int{random.Intn(256)}}}[random.Intn(3)]
			}
		}, func(*api.Stmt) {})
		if e := syntax.Right(p); e != api.OK {
			t.Fatalf("Right = %d", e)
		}
		checkModel(t, p)
		checkTokens(t, Print(p), Compact(p))
	}
}

// The texts of a program that was printed are the same again.
func TestP1305Again(t *testing.T) {
	for _, p := range programs(t, 500) {
		for _, text := range []string{Print(p), Compact(p)} {
			check(t, text, Print(p), Compact(p))
		}
	}
}
