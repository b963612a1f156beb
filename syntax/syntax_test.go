package syntax

import (
	"fmt"
	"math"
	"reflect"
	"regexp"
	"slices"
	"strings"
	"testing"
	"time"

	"arraylang/api"
	"arraylang/array"
	"arraylang/format"
	"arraylang/token"
)

// functions and operators are the names of the primitives in the order of their constants, as the document lists them.
const (
	functions = `+ - * % | ^ min max < <= = ~= >= > and or not shape reshape tally depth , stack iota take drop first reverse rotate transpose ` +
		`from pick select amend up down sort find in unique where copy expand cut encode decode box open same kind ord chr format left right`
	operators = `/ \ each swap outer inner rank power stencil atop over`
)

// short names for the nodes of which the examples consist.
var (
	one   = literal(array.Scalar(1))
	two   = literal(array.Scalar(2))
	left  = api.Node{Kind: api.NLeft, Class: api.ArrayClass}
	right = api.Node{Kind: api.NRight, Class: api.ArrayClass}
	input = api.Node{Kind: api.NInput, Class: api.ArrayClass}
	self  = api.Node{Kind: api.NSelf, Class: api.FunClass}
	f     = api.Node{Kind: api.NOperand1, Class: api.FunClass}
	g     = api.Node{Kind: api.NOperand2, Class: api.FunClass}
	add   = prim(api.PAdd)
)

func literal(a api.Array) api.Node {
	return api.Node{Kind: api.NLiteral, Class: api.ArrayClass, Value: a}
}

func number(n int) api.Node { return literal(array.Scalar(n)) }

func text(s string) api.Node { return literal(array.Text(s)) }

func char(c rune) api.Node { return literal(api.Array{Kind: api.Char, Nums: []int{int(c)}}) }

// name returns a name whose class is told by its first letter, so that a text that mentions it can be parsed.
func name(s string) api.Node {
	return api.Node{Kind: api.NName, Class: classOf(s), Text: s}
}

func classOf(s string) api.Class {
	return map[byte]api.Class{'f': api.FunClass, 'o': api.Op1Class, 'p': api.Op2Class, 'a': api.ArrayClass}[s[0]]
}

func prim(p api.Prim) api.Node {
	return api.Node{Kind: api.NPrim, Class: api.FunClass, Prim: p}
}

func op(o api.Op) api.Node {
	class := api.Op2Class
	if slices.Contains([]api.Op{api.OReduce, api.OScan, api.OEach, api.OSwap, api.OOuter}, o) {
		class = api.Op1Class
	}
	return api.Node{Kind: api.NOperator, Class: class, Op: o}
}

func of(kind api.NodeKind, class api.Class, kids ...api.Node) api.Node {
	return api.Node{Kind: kind, Class: class, Kids: kids}
}

func strand(kids ...api.Node) api.Node     { return of(api.NStrand, api.ArrayClass, kids...) }
func monad(f, y api.Node) api.Node         { return of(api.NMonad, api.ArrayClass, f, y) }
func dyad(x, f, y api.Node) api.Node       { return of(api.NDyad, api.ArrayClass, f, x, y) }
func derive1(f, o api.Node) api.Node       { return of(api.NDerive1, api.FunClass, o, f) }
func derive2(f, o, g api.Node) api.Node    { return of(api.NDerive2, api.FunClass, o, f, g) }
func train(items ...api.Node) api.Node     { return of(api.NTrain, api.FunClass, items...) }
func expr(n api.Node) api.Stmt             { return api.Stmt{Kind: api.SExpr, Node: n} }
func guard(test, n api.Node) api.Stmt      { return api.Stmt{Kind: api.SGuard, Test: test, Node: n} }
func program(l ...api.Stmt) api.Program    { return api.Program{Body: l} }
func define(s string, n api.Node) api.Stmt { return api.Stmt{Kind: api.SDefine, Name: s, Node: n} }

// lambda returns a lambda of the class that its body gives it.
func lambda(body ...api.Stmt) api.Node {
	n := api.Node{Kind: api.NLambda, Class: api.FunClass, Body: body}
	switch words := free(n.Body...); {
	case strings.Contains(words, "G"):
		n.Class = api.Op2Class
	case strings.Contains(words, "F"):
		n.Class = api.Op1Class
	}
	return n
}

// free returns a letter for each operand, argument and self in the statements that is outside inner lambdas.
func free(body ...api.Stmt) string {
	letters := map[api.NodeKind]string{api.NLeft: "X", api.NRight: "Y", api.NSelf: "S", api.NOperand1: "F", api.NOperand2: "G"}
	var ofNode func(n api.Node) string
	ofNode = func(n api.Node) string {
		s := letters[n.Kind]
		for _, kid := range n.Kids {
			s += ofNode(kid)
		}
		return s
	}
	s := ""
	for _, stmt := range body {
		s += ofNode(stmt.Node)
		if stmt.Kind == api.SGuard {
			s += ofNode(stmt.Test)
		}
	}
	return s
}

// arrays, funs, op1s and op2s are valid nodes of each class, of all kinds and with all kinds of parts; only those of loose need a lambda around them.
func arrays() []api.Node {
	return []api.Node{one, number(-7), char('\''), text("a b"), text(""), name("a1"), input, strand(one, two), strand(strand(one, two), monad(add, one), text("x")),
		monad(add, one), dyad(one, add, two), monad(train(add, add), strand(one, two)), dyad(monad(add, one), train(one, add, add), dyad(one, add, two))}
}

func funs() []api.Node {
	return []api.Node{add, prim(api.PNotEqual), prim(api.PFormat), name("f"), lambda(expr(right)), lambda(define("f1", train(add, add)), guard(left, one), guard(monad(self, right), dyad(left, self, right)), expr(strand(one, right))),
		derive1(add, op(api.OReduce)), derive1(derive1(add, op(api.OScan)), name("o")), derive2(add, op(api.OInner), add), derive2(add, op(api.ORank), one), derive2(add, op(api.OPower), strand(one, two)), derive2(derive1(add, op(api.OEach)), name("p"), derive1(add, op(api.OEach))),
		train(add, add), train(add, add, add), train(one, add, add), train(strand(one, two), train(add, add), derive1(add, op(api.OReduce))), derive1(train(add, add), lambda(expr(monad(f, right))))}
}

func op1s() []api.Node {
	return []api.Node{op(api.OReduce), op(api.OOuter), name("o"), lambda(expr(monad(f, right))), lambda(guard(monad(f, one), two), expr(lambdaOf(g)))}
}

func op2s() []api.Node {
	return []api.Node{op(api.OInner), op(api.OAtop), name("p9"), lambda(expr(dyad(left, f, monad(g, right)))), lambda(expr(monad(derive1(g, op(api.OEach)), right)))}
}

// lambdaOf returns an application of a function that is derived from a lambda with the given operand.
func lambdaOf(operand api.Node) api.Node {
	return monad(derive2(add, lambda(expr(monad(operand, one))), add), one)
}

func loose() []api.Node {
	return []api.Node{left, right, self, f, g, strand(left, right), monad(self, right), dyad(left, f, right), train(f, g), train(left, f, g), derive1(f, op(api.OEach)), derive2(add, op(api.ORank), left), derive2(add, op(api.OOver), g)}
}

// examples returns all nodes above, and all nodes that have one of each class as parts.
func examples() []api.Node {
	list := slices.Concat(arrays(), funs(), op1s(), op2s(), loose())
	for o := api.OReduce; o <= api.OOver; o++ {
		list = append(list, op(o))
	}
	for _, fun := range funs() {
		for _, y := range arrays() {
			list = append(list, monad(fun, y), lambda(expr(monad(fun, y))))
			for _, x := range arrays() {
				list = append(list, dyad(x, fun, y))
			}
		}
		for _, o := range op1s() {
			list = append(list, derive1(fun, o))
		}
		for _, other := range funs() {
			list = append(list, train(fun, other), train(fun, add, other), train(fun, other, add))
			for _, o := range op2s() {
				list = append(list, derive2(fun, o, other))
			}
			for _, x := range arrays() {
				list = append(list, train(x, fun, other))
			}
		}
		for _, y := range arrays() {
			list = append(list, derive2(fun, op(api.ORank), y), derive2(fun, op(api.OPower), y), derive2(fun, op(api.OStencil), y))
		}
	}
	for _, x := range arrays() {
		for _, y := range arrays() {
			list = append(list, strand(x, y), strand(x, one, y, x), lambda(guard(x, y), define("a", x), expr(y)))
		}
	}
	return list
}

// below returns a function that returns varied numbers from 0 to n - 1, always the same ones.
func below() func(n int) int {
	state := uint64(1)
	return func(n int) int {
		state = state*6364136223846793005 + 1442695040888963407
		return int(state>>33) % n
	}
}

// maker makes varied valid nodes. Within a lambda it may use X, Y and self, and also F and G if the lambda has these operands.
type maker struct {
	pick   func(n int) int
	within string
}

func (m maker) one(l ...api.Node) api.Node { return l[m.pick(len(l))] }

// placed gives n the offsets and slots that any valid node may have.
func (m maker) placed(n api.Node) api.Node {
	n.At, n.Depth, n.Slot, n.Slots = m.pick(99), m.pick(3), m.pick(3), m.pick(3)
	return n
}

func (m maker) array(deep int) api.Node {
	if deep <= 1 {
		leaves := []api.Node{number(m.pick(200) - 100), char(rune(m.pick(300))), text("ab\n"), name("a"), name("a7"), input}
		if m.within != "" {
			leaves = append(leaves, left, right)
		}
		return m.placed(m.one(leaves...))
	}
	switch m.pick(4) {
	case 0:
		kids := []api.Node{}
		for range 2 + m.pick(3) {
			kids = append(kids, m.array(deep-1-m.pick(2)))
		}
		return m.placed(strand(kids...))
	case 1:
		return m.placed(monad(m.function(deep-1), m.array(deep-1)))
	default:
		return m.placed(dyad(m.array(deep-1), m.function(deep-1-m.pick(2)), m.array(deep-1)))
	}
}

func (m maker) function(deep int) api.Node {
	if deep <= 1 {
		leaves := []api.Node{prim(api.Prim(1 + m.pick(55))), prim(api.Prim(1 + m.pick(55))), name("f"), name("f3")}
		for _, letter := range m.within {
			leaves = append(leaves, map[rune]api.Node{'S': self, 'F': f, 'G': g}[letter])
		}
		return m.placed(m.one(leaves...))
	}
	switch m.pick(6) {
	case 0:
		return m.placed(derive1(m.function(deep-1), m.operator1(deep-1)))
	case 1:
		return m.placed(derive2(m.function(deep-1), m.operator2(deep-1), m.function(deep-1)))
	case 2:
		return m.placed(derive2(m.function(deep-1), m.placed(op(api.ORank+api.Op(m.pick(3)))), m.array(deep-1)))
	case 3:
		return m.placed(train(m.function(deep-1), m.function(deep-1)))
	case 4:
		first := []api.Node{m.array(deep - 1), m.function(deep - 1)}[m.pick(2)]
		return m.placed(train(first, m.function(deep-1), m.function(deep-2)))
	}
	return m.lambda(deep, "S")
}

func (m maker) operator1(deep int) api.Node {
	if deep <= 4 {
		return m.placed(m.one(op(api.OReduce+api.Op(m.pick(5))), name("o")))
	}
	return m.lambda(deep, "SF")
}

func (m maker) operator2(deep int) api.Node {
	if deep <= 4 {
		return m.placed(m.one(op(api.OInner), op(api.OAtop), op(api.OOver), name("p")))
	}
	return m.lambda(deep, "SFG")
}

// lambda returns a lambda that may use the operands that are in within, and uses the last one of them.
func (m maker) lambda(deep int, within string) api.Node {
	m.within = within
	result := m.array(deep - 2)
	if deep > 3 {
		result = monad(m.one(map[byte]api.Node{'S': self, 'F': f, 'G': g}[within[len(within)-1]]), m.array(deep-3))
	}
	n := lambda(append(m.statements(deep-2, true), expr(result))...)
	return m.placed(n)
}

// statements returns up to three statements, with guards among them if they are those of a lambda.
func (m maker) statements(deep int, guards bool) []api.Stmt {
	var body []api.Stmt
	for i, s := range []string{"a", "f", "o", "p"}[m.pick(4):] {
		switch kind := m.pick(3); {
		case kind == 0 && guards:
			body = append(body, guard(m.array(deep-1), m.array(deep-1)))
		case kind == 1:
			body = append(body, expr(m.array(deep-1)))
		case s == "a":
			body = append(body, define(s, m.array(deep-1)))
		case s == "f" || deep < 5:
			body = append(body, define("f"+fmt.Sprint(i), m.function(deep-1)))
		case s == "o":
			body = append(body, define(s, m.lambda(deep-1, "SF")))
		default:
			body = append(body, define(s, m.lambda(deep-1, "SFG")))
		}
		last := &body[len(body)-1]
		last.At = m.pick(99)
		if last.Kind == api.SDefine {
			last.Slot = m.pick(9)
		}
	}
	return body
}

// varied returns count nodes of all classes that are valid outside lambdas.
func varied(count int) []api.Node {
	m := maker{pick: below()}
	var list []api.Node
	for i := range count {
		deep := 1 + i%8
		list = append(list, []func(int) api.Node{m.array, m.function, m.operator1, m.operator2}[m.pick(4)](deep))
	}
	return list
}

// rule is what the chapter says of a kind: the classes that it may have and those of its kids as letters, with A... for 2 to 1000 arrays, and the field that it uses.
type rule struct{ classes, field, kids string }

var rules = map[api.NodeKind]rule{
	api.NLiteral:  {"A", "Value", ""},
	api.NName:     {"AF12", "Text", ""},
	api.NStrand:   {"A", "Kids", "A..."},
	api.NMonad:    {"A", "Kids", "FA"},
	api.NDyad:     {"A", "Kids", "FAA"},
	api.NLeft:     {"A", "", ""},
	api.NRight:    {"A", "", ""},
	api.NInput:    {"A", "", ""},
	api.NPrim:     {"F", "Prim", ""},
	api.NLambda:   {"F12", "Body", ""},
	api.NSelf:     {"F", "", ""},
	api.NOperand1: {"F", "", ""},
	api.NOperand2: {"F", "", ""},
	api.NDerive1:  {"F", "Kids", "1F"},
	api.NDerive2:  {"F", "Kids", "2FA|2FF"},
	api.NTrain:    {"F", "Kids", "FF|FFF|AFF"},
	api.NOperator: {"12", "Op", ""},
}

// letter returns the letter of a class, which no rule has if it is none of the four.
func letter(c api.Class) string {
	if c < 1 || c > 4 {
		return "?"
	}
	return "?AF12"[c : c+1]
}

// isEmpty reports whether a field is zero, where an empty list is as good as nil.
func isEmpty(v reflect.Value) bool {
	switch v.Kind() {
	case reflect.Slice:
		return v.Len() == 0
	case reflect.Struct:
		for i := range v.NumField() {
			if !isEmpty(v.Field(i)) {
				return false
			}
		}
		return true
	}
	return v.IsZero()
}

// expectValid is what the chapter says of a valid node, wherever it stands.
func expectValid(n api.Node) bool {
	r, ok := rules[n.Kind]
	if !ok || !strings.Contains(r.classes, letter(n.Class)) || n.At < 0 || n.Depth < 0 || n.Slot < 0 || n.Slots < 0 {
		return false
	}
	fields := reflect.ValueOf(n)
	for i := range fields.NumField() {
		field := fields.Type().Field(i).Name
		if !slices.Contains([]string{"Kind", "Class", "At", "Depth", "Slot", "Slots", r.field}, field) && !isEmpty(fields.Field(i)) {
			return false
		}
	}
	classes := ""
	for _, kid := range n.Kids {
		if !expectValid(kid) {
			return false
		}
		classes += letter(kid.Class)
	}
	return fits(r.kids, classes) && expectField(n)
}

// fits reports whether the classes fit the pattern of a rule.
func fits(pattern, classes string) bool {
	if pattern == "A..." {
		return len(classes) >= 2 && len(classes) <= 1000 && strings.Trim(classes, "A") == ""
	}
	return slices.Contains(strings.Split(pattern, "|"), classes)
}

// expectField is what the chapter says of the field that the kind of n uses, apart from the classes of its kids.
func expectField(n api.Node) bool {
	switch n.Kind {
	case api.NLiteral:
		kind, rank := n.Value.Kind, len(n.Value.Shape)
		return array.Right(n.Value) == api.OK && (rank == 0 && kind != api.Boxed || rank == 1 && kind == api.Char)
	case api.NName:
		return expectName(n.Text)
	case api.NPrim:
		return n.Prim >= 1 && n.Prim <= 55
	case api.NOperator:
		return n.Op >= 1 && n.Op <= 11 && n.Class == op(n.Op).Class
	case api.NDerive2:
		needsArray := n.Kids[0].Kind == api.NOperator && slices.Contains([]string{"rank", "power", "stencil"}, strings.Fields(operators)[n.Kids[0].Op-1])
		return (n.Kids[2].Class == api.ArrayClass) == needsArray
	case api.NLambda:
		words := free(n.Body...)
		classes := map[api.Class]bool{
			api.FunClass: !strings.ContainsAny(words, "FG"),
			api.Op1Class: strings.Contains(words, "F") && !strings.Contains(words, "G"),
			api.Op2Class: strings.Contains(words, "G"),
		}
		return len(n.Body) > 0 && n.Body[len(n.Body)-1].Kind == api.SExpr && expectBody(n.Body) && classes[n.Class]
	}
	return true
}

var word32 = regexp.MustCompile("^[a-z][a-z0-9]{0,31}$")

func expectName(s string) bool { return word32.MatchString(s) && !token.Reserved(s) }

func expectBody(body []api.Stmt) bool {
	var names []string
	for _, s := range body {
		isValid := expectValid(s.Node)
		isArray := isValid && s.Node.Class == api.ArrayClass
		canBeDefined := isValid && (s.Node.Class <= api.FunClass || s.Node.Kind == api.NLambda)
		noTest := isEmpty(reflect.ValueOf(s.Test))
		ok := map[api.StmtKind]bool{
			api.SExpr:   isArray && s.Name == "" && s.Slot == 0 && noTest,
			api.SDefine: canBeDefined && expectName(s.Name) && !slices.Contains(names, s.Name) && s.Slot >= 0 && noTest,
			api.SGuard:  isArray && s.Name == "" && s.Slot == 0 && expectValid(s.Test) && s.Test.Class == api.ArrayClass,
		}[s.Kind]
		if !ok || s.At < 0 {
			return false
		}
		names = append(names, s.Name)
	}
	return len(body) <= 1000
}

// inner returns the nodes directly within n, by the chapter's definitions of size and depth.
func inner(n api.Node) []api.Node {
	list := slices.Clone(n.Kids)
	for _, s := range n.Body {
		list = append(list, s.Node)
		if s.Kind == api.SGuard {
			list = append(list, s.Test)
		}
	}
	return list
}

func size(n api.Node) int {
	count := 1
	for _, other := range inner(n) {
		count += size(other)
	}
	return count
}

func depth(n api.Node) int {
	greatest := 0
	for _, other := range inner(n) {
		greatest = max(greatest, depth(other))
	}
	return greatest + 1
}

// expectRight is what P1002 says of RightNode, or of Right for a body; the node's rule about what needs a lambda is left out for Show.
func expectRight(n api.Node, isProgram, isLoose bool) api.Errno {
	top := api.Node{Kids: []api.Node{n}}
	if isProgram {
		top = api.Node{Body: n.Body}
	}
	isGuard := func(s api.Stmt) bool { return s.Kind == api.SGuard }
	switch {
	case len(top.Body) > 1000:
		return api.ErrLong
	case depth(top) > 61:
		return api.ErrDeep
	case size(top) > 16385:
		return api.ErrLimit
	case isProgram && (!expectBody(n.Body) || slices.ContainsFunc(n.Body, isGuard) || free(n.Body...) != ""):
		return api.ErrClass
	case !isProgram && (!expectValid(n) || !isLoose && free(expr(n)) != ""):
		return api.ErrClass
	}
	return api.OK
}

// enclosed lists by the chapter's cases which kinds are in parentheses in which places.
var enclosed = []struct {
	places string
	kinds  []api.NodeKind
}{
	{"element, right operand", []api.NodeKind{api.NStrand, api.NMonad, api.NDyad}},
	{"left argument, item", []api.NodeKind{api.NMonad, api.NDyad}},
	{"left operand, right operand, function, item", []api.NodeKind{api.NTrain}},
	{"right operand", []api.NodeKind{api.NDerive1, api.NDerive2}},
}

// expectPart is the text of n in a place, by the chapter's words.
func expectPart(n api.Node, place string) string {
	for _, c := range enclosed {
		if slices.Contains(strings.Split(c.places, ", "), place) && slices.Contains(c.kinds, n.Kind) {
			return "( " + expectText(n) + " )"
		}
	}
	return expectText(n)
}

// expectText is the text of the valid node n, by the chapter's words.
func expectText(n api.Node) string {
	join := func(places ...string) string {
		parts := []string{}
		for i, kid := range n.Kids {
			parts = append(parts, expectPart(kid, places[i%len(places)]))
		}
		switch n.Kind {
		case api.NDyad, api.NDerive2:
			parts[0], parts[1] = parts[1], parts[0]
		case api.NDerive1:
			slices.Reverse(parts)
		}
		return strings.Join(parts, " ")
	}
	switch n.Kind {
	case api.NLiteral:
		return format.Literal(n.Value)
	case api.NName:
		return n.Text
	case api.NPrim:
		return strings.Fields(functions)[n.Prim-1]
	case api.NOperator:
		return strings.Fields(operators)[n.Op-1]
	case api.NStrand:
		return join("element")
	case api.NMonad:
		return join("function", "right argument")
	case api.NDyad:
		return join("function", "left argument", "right argument")
	case api.NDerive1:
		return join("operator", "left operand")
	case api.NDerive2:
		return join("operator", "left operand", "right operand")
	case api.NTrain:
		return join("item")
	case api.NLambda:
		return "{ " + expectStatements(n.Body) + " }"
	}
	return map[api.NodeKind]string{api.NLeft: "X", api.NRight: "Y", api.NInput: "arg", api.NSelf: "self", api.NOperand1: "F", api.NOperand2: "G"}[n.Kind]
}

func expectStatements(body []api.Stmt) string {
	parts := []string{}
	for _, s := range body {
		before := map[api.StmtKind]string{api.SDefine: s.Name + " <- "}[s.Kind]
		if s.Kind == api.SGuard {
			before = expectText(s.Test) + " : "
		}
		parts = append(parts, before+expectText(s.Node))
	}
	return strings.Join(parts, " ; ")
}

// plain returns n without offsets and slots, and with nil for each empty list.
func plain(n api.Node) api.Node {
	n.At, n.Depth, n.Slot, n.Slots = 0, 0, 0, 0
	n.Value.Shape, n.Value.Nums, n.Value.Items = append([]int(nil), n.Value.Shape...), append([]int(nil), n.Value.Nums...), append([]api.Array(nil), n.Value.Items...)
	var kids []api.Node
	for _, kid := range n.Kids {
		kids = append(kids, plain(kid))
	}
	n.Kids, n.Body = kids, plainBody(n.Body)
	return n
}

func plainBody(l []api.Stmt) []api.Stmt {
	var body []api.Stmt
	for _, s := range l {
		body = append(body, api.Stmt{Kind: s.Kind, Name: s.Name, Test: plain(s.Test), Node: plain(s.Node)})
	}
	return body
}

// moved returns n with other offsets and slots wherever a valid node may have some, and no memory shared with it.
func moved(n api.Node, by int) api.Node {
	n.At, n.Depth, n.Slot, n.Slots = n.At+by, n.Depth+by, n.Slot+2*by, n.Slots+by
	n.Value = array.Clone(n.Value)
	n.Kids = slices.Clone(n.Kids)
	for i, kid := range n.Kids {
		n.Kids[i] = moved(kid, by)
	}
	n.Body = slices.Clone(n.Body)
	for i, s := range n.Body {
		s.At, s.Node = s.At+by, moved(s.Node, by)
		switch s.Kind {
		case api.SDefine:
			s.Slot += by
		case api.SGuard:
			s.Test = moved(s.Test, by)
		}
		n.Body[i] = s
	}
	return n
}

// brief returns a node, a statement or a list of statements as text of a bounded length, without the fields that are zero.
func brief(v any) string {
	s := fmt.Sprintf("%+v", v)
	for _, zero := range []string{"Kind", "Name", "At", "Class", "Text", "Prim", "Op", "Shape", "Nums", "Items", "Value", "Kids", "Body", "Depth", "Slots", "Slot", "Test", "Node"} {
		s = regexp.MustCompile(zero+`:(0|\[\]|\{ *\}| |$)`).ReplaceAllString(s, "")
	}
	s = strings.Join(strings.Fields(s), " ")
	return s[:min(len(s), 400)]
}

// checkNode checks all calls for n against the chapter's words.
func checkNode(t *testing.T, n api.Node) {
	t.Helper()
	if e, want := RightNode(n), expectRight(n, false, false); e != want {
		t.Errorf("RightNode(%s) = %d; want %d", brief(n), e, want)
	}
	want := ""
	if expectRight(n, false, true) == api.OK {
		want = expectText(n)
	}
	if s := Show(n); s != want {
		t.Errorf("Show(%s) = %q; want %q", brief(n), s, want)
	}
	if got := Size(n); got != min(size(n), 16385) {
		t.Errorf("Size(%s) = %d; want %d", brief(n), got, size(n))
	}
	if c := Class(n); c != n.Class {
		t.Errorf("Class(%s) = %d", brief(n), c)
	}
}

// checkRight checks Right for the program of these statements against the chapter's words.
func checkRight(t *testing.T, body ...api.Stmt) {
	t.Helper()
	if e, want := Right(program(body...)), expectRight(api.Node{Body: body}, true, false); e != want {
		t.Errorf("Right(%s) = %d; want %d", brief(body), e, want)
	}
}

// checkErrors checks the errors of RightNode and of Right for a program with the given statements.
func checkErrors(t *testing.T, n api.Node, ofNode api.Errno, ofProgram api.Errno, body ...api.Stmt) {
	t.Helper()
	if e := RightNode(n); e != ofNode {
		t.Errorf("RightNode(%s) = %d; want %d", brief(n), e, ofNode)
	}
	if e := Right(program(body...)); e != ofProgram {
		t.Errorf("Right(%s) = %d; want %d", brief(body), e, ofProgram)
	}
}

// checkSame checks Same and SameProgram for a and b in both directions.
func checkSame(t *testing.T, a, b api.Node, want bool) {
	t.Helper()
	if Same(a, b) != want || Same(b, a) != want {
		t.Errorf("Same(%s, %s) is not %t", brief(a), brief(b), want)
	}
	if SameProgram(program(expr(a)), program(expr(b))) != want || SameProgram(program(guard(b, one)), program(guard(a, one))) != want {
		t.Errorf("SameProgram for %s and %s is not %t", brief(a), brief(b), want)
	}
}

// checkInTime fails the test if call takes far longer than it needs.
func checkInTime(t *testing.T, call func()) {
	t.Helper()
	done := make(chan struct{})
	go func() {
		defer close(done)
		call()
	}()
	select {
	case <-done:
	case <-time.After(30 * time.Second):
		t.Fatal("the call takes too long")
	}
}

// names returns names that are valid and texts that are none.
func names() []string {
	long := strings.Repeat("z9", 16)
	list := []string{"a", "z", "a0", "a9z", "ab", "f", "selfs", "args", "x", "y", "iota1", "plus", long, long[:31],
		"", "A", "X", "F", "9a", "0", "a_b", "_a", "aB", "Ab", "a b", " a", "a ", "é", "aé", "a\x00", "a\xff", "`", "{", "a{", "a`", "a/", "a:", "@", "[", "<-", ":", long + "a", long + "9", strings.Repeat("a", 1000)}
	return append(append(list, strings.Fields(functions+" "+operators+" X Y F G self arg")...), "ands", "an", "or2", "overs", "ove")
}

// values returns arrays that literals may have as values, and others.
func values() []api.Array {
	return []api.Array{{}, array.Scalar(0), array.Scalar(-api.MaxNum), {Kind: api.Char, Nums: []int{0x10FFFF}}, array.Text(""), array.Text("a"), array.Text("ab\n\x00é"),
		array.Vector(), array.Vector(1), array.Vector(1, 2), array.Box(array.Scalar(1)), array.Boxes(), array.Boxes(array.Scalar(1)), {Kind: api.Char, Shape: []int{1, 1}, Nums: []int{97}}, {Kind: api.Int, Shape: []int{1, 1}, Nums: []int{1}}, {Kind: api.Char, Shape: []int{0, 0}},
		{Kind: api.Int}, {Kind: api.Int, Nums: []int{api.MaxNum + 1}}, {Kind: api.Int, Nums: []int{1, 2}}, {Kind: api.Int, Nums: []int{1}, Items: []api.Array{{}}}, {Kind: api.Char, Nums: []int{0xD800}}, {Kind: api.Char, Shape: []int{2}, Nums: []int{97}}, {Kind: api.Char, Shape: []int{-1}},
		{Kind: api.Char, Shape: []int{1}, Nums: []int{-1}}, {Kind: 4, Nums: []int{1}}, {Kind: 0, Nums: []int{1}}, {Shape: []int{0}}, {Shape: []int{}, Nums: []int{}, Items: []api.Array{}}, {Items: []api.Array{{}}}, {Kind: api.Int, Shape: []int{}, Nums: []int{3}, Items: []api.Array{}}}
}

// strange returns numbers that no enumeration has, and a few that some have.
func strange() []int {
	return []int{math.MinInt, -2, -1, 0, 1, 2, 3, 4, 5, 6, 7, 8, 9, 10, 11, 12, 13, 14, 15, 16, 17, 18, 54, 55, 56, 1000, math.MaxInt}
}

// variants returns n with one field changed, in all ways that tell.
func variants(n api.Node) []api.Node {
	var list []api.Node
	add := func(change func(n *api.Node)) {
		other := n
		other.Kids, other.Body = slices.Clone(n.Kids), slices.Clone(n.Body)
		change(&other)
		list = append(list, other)
	}
	for _, i := range strange() {
		add(func(n *api.Node) { n.Kind = api.NodeKind(i) })
		add(func(n *api.Node) { n.Class = api.Class(i) })
		add(func(n *api.Node) { n.Prim = api.Prim(i) })
		add(func(n *api.Node) { n.Op = api.Op(i) })
		add(func(n *api.Node) { n.At = i })
		add(func(n *api.Node) { n.Depth = i })
		add(func(n *api.Node) { n.Slot = i })
		add(func(n *api.Node) { n.Slots = i })
	}
	for _, s := range names() {
		add(func(n *api.Node) { n.Text = s })
	}
	for _, a := range values() {
		add(func(n *api.Node) { n.Value = a })
	}
	for _, kids := range kidLists(n.Kids) {
		add(func(n *api.Node) { n.Kids = kids })
	}
	for _, body := range bodies(n.Body) {
		add(func(n *api.Node) { n.Body = body })
	}
	return list
}

// kidLists returns lists that differ from kids in one or two places, or in their length.
func kidLists(kids []api.Node) [][]api.Node {
	lists := [][]api.Node{nil, {}, {one}, {add, one}, append(slices.Clone(kids), one), append(slices.Clone(kids), add), append([]api.Node{one}, kids...), append([]api.Node{add}, kids...), append(slices.Clone(kids), api.Node{})}
	others := []api.Node{{}, one, strand(one), strand(one, two), add, train(add, add), name("a"), name("f"), name("o"), name("p"), op(api.OEach), op(api.OInner), op(api.ORank), op(api.OPower), op(api.OStencil), op(api.OAtop), op(api.OOver), lambda(expr(one)), lambda(expr(monad(f, one))), lambda(expr(monad(g, one))), left, right, self, f, g, {Kind: api.NLiteral, Class: api.ArrayClass}}
	for i := range kids {
		lists = append(lists, slices.Delete(slices.Clone(kids), i, i+1), slices.Insert(slices.Clone(kids), i, kids[i]))
		for _, other := range others {
			list := slices.Clone(kids)
			list[i] = other
			lists = append(lists, list)
			for _, last := range others {
				if both := slices.Clone(list); i < len(kids)-1 {
					both[len(kids)-1] = last
					lists = append(lists, both)
				}
			}
		}
	}
	return lists
}

// bodies returns bodies that differ from body in one place, or in their length.
func bodies(body []api.Stmt) [][]api.Stmt {
	more := []api.Stmt{{}, expr(one), expr(add), expr(right), expr(monad(f, one)), expr(monad(g, one)), expr(dyad(one, f, monad(g, one))), expr(monad(lambda(expr(right)), one)), expr(monad(derive1(add, lambda(expr(monad(f, right)))), one)),
		define("a", one), define("f", add), define("o", lambda(expr(monad(f, one)))), define("p", lambda(expr(monad(g, one)))), define("o", op(api.OEach)), define("o", name("o")), define("f", derive1(add, op(api.OEach))), guard(one, two), guard(monad(f, one), two), guard(one, monad(g, one))}
	lists := [][]api.Stmt{nil, {}}
	for _, s := range more {
		lists = append(lists, []api.Stmt{s}, append(slices.Clone(body), s), append([]api.Stmt{s}, body...), append([]api.Stmt{s, s}, body...))
	}
	for i := range body {
		lists = append(lists, slices.Delete(slices.Clone(body), i, i+1))
		for _, s := range statementVariants(body[i]) {
			list := slices.Clone(body)
			list[i] = s
			lists = append(lists, list)
		}
	}
	return lists
}

// statementVariants returns s with one field changed, in all ways that tell.
func statementVariants(s api.Stmt) []api.Stmt {
	var list []api.Stmt
	add := func(change func(s *api.Stmt)) {
		other := s
		change(&other)
		list = append(list, other)
	}
	for _, i := range []int{math.MinInt, -1, 0, 1, 2, 3, 4, math.MaxInt} {
		add(func(s *api.Stmt) { s.Kind = api.StmtKind(i) })
		add(func(s *api.Stmt) { s.At = i })
		add(func(s *api.Stmt) { s.Slot = i })
		for _, n := range []api.Node{{At: i}, {Depth: i}, {Slot: i}, {Slots: i}, {Kind: api.NodeKind(i)}, {Class: api.Class(i)}, {Prim: api.Prim(i)}, {Op: api.Op(i)}} {
			add(func(s *api.Stmt) { s.Test = n })
		}
	}
	for _, text := range names() {
		add(func(s *api.Stmt) { s.Name = text })
	}
	for _, n := range slices.Concat(arrays(), funs(), op1s(), op2s(), loose()) {
		add(func(s *api.Stmt) { s.Node = n })
		add(func(s *api.Stmt) { s.Test = n })
	}
	for _, n := range []api.Node{{}, {Text: "a"}, {Value: array.Scalar(1)}, {Kids: []api.Node{one}}, {Kids: []api.Node{}, Body: []api.Stmt{}}, {Body: []api.Stmt{{}}}, strand(one), {Kind: api.NLiteral, Class: api.ArrayClass}, {Kind: api.NSelf, Class: api.ArrayClass}} {
		add(func(s *api.Stmt) { s.Node = n })
		add(func(s *api.Stmt) { s.Test = n })
	}
	return list
}

// towers returns valid nodes of the given depth, which must be even, each nested in another way.
func towers(deep int) []api.Node {
	call := func(body ...api.Stmt) api.Node { return monad(lambda(body...), one) }
	arounds := []func(n api.Node) api.Node{
		func(n api.Node) api.Node { return monad(add, n) },
		func(n api.Node) api.Node { return dyad(n, add, one) },
		func(n api.Node) api.Node { return dyad(one, add, n) },
		func(n api.Node) api.Node { return strand(one, one, n, one) },
		func(n api.Node) api.Node { return call(expr(n)) },
		func(n api.Node) api.Node { return call(expr(n), expr(one)) },
		func(n api.Node) api.Node { return call(define("a", n), expr(one)) },
		func(n api.Node) api.Node { return call(guard(n, one), expr(one)) },
		func(n api.Node) api.Node { return call(guard(one, n), expr(one)) },
		func(n api.Node) api.Node { return derive1(n, op(api.OEach)) },
		func(n api.Node) api.Node { return derive2(n, op(api.ORank), one) },
		func(n api.Node) api.Node { return derive2(add, op(api.OOver), n) },
		func(n api.Node) api.Node { return train(n, add) },
		func(n api.Node) api.Node { return train(add, add, n) },
		func(n api.Node) api.Node { return lambda(define("f", n), expr(one)) },
	}
	var list []api.Node
	for i, around := range arounds {
		n := []api.Node{monad(add, one), train(add, add)}[i/9]
		for depth(n) < deep {
			n = around(n)
		}
		list = append(list, n)
	}
	return list
}

// wide returns a valid strand of the given size, which must be between 16019 and 17001.
func wide(nodes int) api.Node {
	kids := slices.Repeat([]api.Node{strand(slices.Repeat([]api.Node{one}, api.MaxStrand)...)}, 16)
	return strand(append(kids, slices.Repeat([]api.Node{one}, nodes-16*(api.MaxStrand+1)-1)...)...)
}

// endless returns nodes that are within themselves, which no valid node is. They can't be printed or compared by their contents.
func endless() []api.Node {
	kids := []api.Node{add, {}}
	kids[1] = of(api.NMonad, api.ArrayClass, kids...)
	kids[1].Kids = kids
	twice := []api.Node{add, {}, {}}
	twice[1] = of(api.NDyad, api.ArrayClass)
	twice[1].Kids, twice[2] = twice, twice[1]
	twice[2].Kids = twice
	body := []api.Stmt{{Kind: api.SGuard}, {Kind: api.SExpr}}
	n := api.Node{Kind: api.NLambda, Class: api.FunClass, Body: body}
	body[0].Test, body[0].Node, body[1].Node = n, n, n
	return []api.Node{kids[1], twice[1], n}
}

// shared returns valid nodes of the given depth, except that they have more nodes than there is time for, because their nodes share kids.
func shared(deep int) []api.Node {
	a, b, c := one, train(add, add), lambda(expr(one))
	for range deep - 1 {
		a = strand(a, a)
	}
	for range deep - 2 {
		b = train(b, b, b)
		c = lambda(define("f", c), define("f1", c), expr(one))
	}
	return []api.Node{a, b, c}
}

func TestP1001Pure(t *testing.T) {
	list := slices.Concat(examples(), varied(300), variants(lambda(define("a", one), guard(strand(one, left), one), expr(one))))
	call := func() string {
		var s strings.Builder
		for i, n := range list {
			other := list[len(list)-1-i]
			fmt.Fprint(&s, RightNode(n), Right(program(expr(n), guard(n, other))), Size(n), Class(n), Same(n, other), SameProgram(program(expr(n)), program(expr(other))), Show(n))
		}
		return s.String()
	}
	before := fmt.Sprintf("%#v", list)
	results := call()
	if call() != results {
		t.Error("the results of the same calls differ")
	}
	if fmt.Sprintf("%#v", list) != before {
		t.Error("the calls change their arguments")
	}
}

func TestP1001AllArguments(t *testing.T) {
	for _, i := range strange() {
		checkNode(t, api.Node{Kind: api.NodeKind(i)})
		checkRight(t, api.Stmt{Kind: api.StmtKind(i)}, expr(one))
		for _, j := range strange() {
			checkNode(t, api.Node{Kind: api.NodeKind(i), Class: api.Class(j)})
			checkNode(t, api.Node{Kind: api.NodeKind(i), Class: api.Class(j), Prim: 1, Op: 1})
			checkNode(t, api.Node{Kind: api.NPrim, Class: api.Class(j), Prim: api.Prim(i)})
			checkNode(t, api.Node{Kind: api.NOperator, Class: api.Class(j), Op: api.Op(i)})
			checkNode(t, api.Node{Kind: api.NodeKind(i), Class: api.Class(j), Kids: []api.Node{add, one}})
			checkNode(t, api.Node{Kind: api.NodeKind(i), Class: api.Class(j), Kids: []api.Node{{Kind: api.NOperator, Op: api.Op(j)}}})
			checkNode(t, api.Node{Kind: api.NodeKind(i), Class: api.Class(j), Body: []api.Stmt{{}}})
			checkNode(t, derive2(add, api.Node{Kind: api.NOperator, Class: api.Op2Class, Op: api.Op(i)}, one))
			checkNode(t, derive2(add, api.Node{Kind: api.NName, Class: api.Op2Class, Op: api.Op(i), Text: "p"}, one))
		}
	}
	checkErrors(t, api.Node{}, api.ErrClass, api.OK)
	checkErrors(t, api.Node{Body: []api.Stmt{}}, api.ErrClass, api.ErrClass, api.Stmt{})
	if !Same(api.Node{}, api.Node{}) || !SameProgram(api.Program{}, api.Program{}) || Size(api.Node{}) != 1 || Class(api.Node{}) != 0 || Show(api.Node{}) != "" {
		t.Error("the calls for zero values")
	}
}

func TestP1001NilIsEmpty(t *testing.T) {
	fill := func(n api.Node) api.Node {
		if n.Kids == nil {
			n.Kids = []api.Node{}
		}
		if n.Body == nil {
			n.Body = []api.Stmt{}
		}
		if n.Value.Shape == nil {
			n.Value.Shape = []int{}
		}
		if n.Value.Nums == nil {
			n.Value.Nums = []int{}
		}
		n.Value.Items = []api.Array{}
		return n
	}
	for _, n := range slices.Concat(arrays(), funs(), op1s(), op2s(), loose()) {
		full := fill(n)
		checkNode(t, full)
		checkSame(t, n, full, true)
		if RightNode(full) != RightNode(n) || Show(full) != Show(n) {
			t.Errorf("empty lists make a difference for %s", brief(n))
		}
	}
	if e := Right(program(api.Stmt{Kind: api.SExpr, Test: fill(api.Node{}), Node: one})); e != api.OK {
		t.Errorf("Right with a test with empty lists is %d", e)
	}
	if Right(api.Program{Body: []api.Stmt{}}) != api.OK || !SameProgram(api.Program{Body: []api.Stmt{}}, api.Program{}) {
		t.Error("an empty body")
	}
}

func TestP1001Ends(t *testing.T) {
	checkInTime(t, func() {
		for i, n := range endless() {
			if RightNode(n) != api.ErrDeep || Right(program(expr(n))) != api.ErrDeep || Right(program(guard(one, one), guard(n, one))) != api.ErrDeep || Right(program(expr(one), define("f", n))) != api.ErrDeep {
				t.Errorf("the validity of endless node %d", i)
			}
			if Size(n) != api.MaxNodes+1 || Class(n) != n.Class || Show(n) != "" || Same(n, one) || SameProgram(program(expr(n)), program(expr(one))) {
				t.Errorf("the calls for endless node %d", i)
			}
		}
		for deep, want := range map[int]api.Errno{30: api.ErrLimit, 59: api.ErrLimit, 60: api.ErrLimit, 61: api.ErrDeep, 62: api.ErrDeep, 1000: api.ErrDeep} {
			for i, n := range shared(deep) {
				if RightNode(n) != want || Right(program(expr(n))) != want || Size(n) != api.MaxNodes+1 || Show(n) != "" {
					t.Errorf("the calls for shared node %d of depth %d", i, deep)
				}
			}
		}
	})
}

func TestP1001Deep(t *testing.T) {
	deepest := func(n api.Node) []api.Node {
		a, b := n, lambda(expr(n))
		for range 1 << 16 {
			a = of(api.NMonad, api.ArrayClass, add, a)
			b = api.Node{Kind: api.NLambda, Class: api.FunClass, Body: []api.Stmt{{Kind: api.SDefine, Name: "f", Node: b}, expr(one)}}
		}
		return []api.Node{a, b}
	}
	first, second, third := deepest(one), deepest(one), deepest(two)
	for i, n := range first {
		if RightNode(n) != api.ErrDeep || Right(program(expr(n))) != api.ErrDeep || Size(n) != api.MaxNodes+1 || Show(n) != "" {
			t.Errorf("the calls for deep node %d", i)
		}
		if !Same(n, second[i]) || Same(n, third[i]) || !SameProgram(program(expr(n)), program(expr(second[i]))) || SameProgram(program(expr(third[i])), program(expr(n))) {
			t.Errorf("the comparisons of deep node %d", i)
		}
	}
}

func TestP1002ValidNodes(t *testing.T) {
	for _, n := range slices.Concat(arrays(), funs(), op1s(), op2s()) {
		body := []api.Stmt{define("a1", n)}
		want := api.OK
		if n.Class > api.FunClass && n.Kind != api.NLambda {
			want = api.ErrClass
		}
		checkErrors(t, n, api.OK, want, body...)
		checkErrors(t, moved(n, 3), api.OK, want, define("a1", moved(n, 7)))
		want = api.ErrClass
		if n.Class == api.ArrayClass {
			want = api.OK
		}
		checkErrors(t, n, api.OK, want, expr(n), expr(one))
	}
	for p := range strings.Fields(functions) {
		checkErrors(t, prim(api.Prim(p+1)), api.OK, api.OK, define("f", prim(api.Prim(p+1))))
	}
	for o := range strings.Fields(operators) {
		checkErrors(t, op(api.Op(o+1)), api.OK, api.ErrClass, define("o", op(api.Op(o+1))))
	}
}

func TestP1002NeedsLambda(t *testing.T) {
	for _, n := range loose() {
		call := monad(train(add, lambda(expr(monad(add, one)))), one)
		checkErrors(t, n, api.ErrClass, api.ErrClass, define("a", n))
		checkErrors(t, strand(one, dyad(n, add, call)), api.ErrClass, api.ErrClass, expr(one), define("a", call), define("f", n))
		inside := expr(strand(one, one))
		if n.Class == api.FunClass {
			inside = expr(monad(n, one))
		} else if n.Class == api.ArrayClass {
			inside = expr(n)
		}
		for _, around := range []api.Node{lambda(inside), lambda(guard(inside.Node, one), expr(one)), lambda(guard(one, inside.Node), expr(one)), lambda(define("a", inside.Node), expr(one)), lambda(inside, expr(lambdaOf(g)))} {
			checkErrors(t, around, api.OK, api.OK, define("f", around))
			checkErrors(t, lambda(expr(monad(derive1(add, op(api.OEach)), one)), define("g", around), expr(one)), api.OK, api.OK, define("f", around), expr(one))
		}
	}
}

func TestP1002Operands(t *testing.T) {
	uses := map[string]api.Stmt{"": expr(one), "F": expr(monad(f, one)), "G": expr(monad(g, one)), "inner F": expr(monad(derive1(add, lambda(expr(monad(f, one)))), one)), "inner G": expr(monad(derive2(add, lambda(expr(monad(g, monad(f, one)))), add), one))}
	for first, a := range uses {
		for second, b := range uses {
			want := api.FunClass
			if first == "F" || second == "F" {
				want = api.Op1Class
			}
			if first == "G" || second == "G" {
				want = api.Op2Class
			}
			for class := api.Class(0); class <= 5; class++ {
				for _, body := range [][]api.Stmt{{a, b}, {guard(a.Node, b.Node), expr(one)}, {define("a1", a.Node), b}, {define("f1", train(a.Node, train(add, add), add)), b}} {
					e := api.ErrClass
					if class == want {
						e = api.OK
					}
					n := api.Node{Kind: api.NLambda, Class: class, Body: body}
					checkErrors(t, n, e, e, define("o", n))
				}
			}
		}
	}
}

func TestP1002Statements(t *testing.T) {
	for _, c := range []struct {
		inLambda, inProgram api.Errno
		body                []api.Stmt
	}{
		{api.ErrClass, api.OK, nil},
		{api.OK, api.OK, []api.Stmt{expr(one)}},
		{api.ErrClass, api.OK, []api.Stmt{expr(one), define("a", one)}},
		{api.OK, api.ErrClass, []api.Stmt{guard(one, two), expr(one)}},
		{api.ErrClass, api.ErrClass, []api.Stmt{expr(one), guard(one, two)}},
		{api.OK, api.OK, []api.Stmt{define("a", one), define("b", add), expr(one)}},
		{api.OK, api.OK, []api.Stmt{define("a", lambda(define("a", one), expr(one))), define("b", one), expr(one)}},
		{api.ErrClass, api.ErrClass, []api.Stmt{define("a", one), expr(one), define("a", add), expr(one)}},
		{api.ErrClass, api.ErrClass, []api.Stmt{expr(add), expr(one)}},
		{api.ErrClass, api.ErrClass, []api.Stmt{expr(op(api.OEach)), expr(one)}},
		{api.ErrClass, api.ErrClass, []api.Stmt{define("a", op(api.OEach)), expr(one)}},
		{api.ErrClass, api.ErrClass, []api.Stmt{define("a", name("o")), expr(one)}},
		{api.OK, api.OK, []api.Stmt{define("a", lambda(expr(monad(g, one)))), expr(one)}},
		{api.ErrClass, api.ErrClass, []api.Stmt{{Kind: api.SExpr, Name: "a", Node: one}, expr(one)}},
		{api.ErrClass, api.ErrClass, []api.Stmt{{Kind: api.SExpr, Slot: 1, Node: one}, expr(one)}},
		{api.ErrClass, api.ErrClass, []api.Stmt{{Kind: api.SExpr, Test: one, Node: one}, expr(one)}},
		{api.ErrClass, api.ErrClass, []api.Stmt{{Kind: api.SExpr, Test: api.Node{At: 1}, Node: one}, expr(one)}},
		{api.ErrClass, api.ErrClass, []api.Stmt{{Kind: api.SExpr, At: -1, Node: one}, expr(one)}},
		{api.OK, api.OK, []api.Stmt{{Kind: api.SExpr, At: math.MaxInt, Node: one}, expr(one)}},
		{api.OK, api.OK, []api.Stmt{{Kind: api.SDefine, At: math.MaxInt, Slot: math.MaxInt, Name: "a", Node: one}, expr(one)}},
		{api.ErrClass, api.ErrClass, []api.Stmt{{Kind: api.SDefine, Slot: -1, Name: "a", Node: one}, expr(one)}},
		{api.ErrClass, api.ErrClass, []api.Stmt{{Kind: api.SDefine, Name: "a", Test: one, Node: one}, expr(one)}},
		{api.ErrClass, api.ErrClass, []api.Stmt{{Kind: api.SDefine, Name: "iota", Node: one}, expr(one)}},
		{api.ErrClass, api.ErrClass, []api.Stmt{{Kind: api.SDefine, Node: one}, expr(one)}},
		{api.ErrClass, api.ErrClass, []api.Stmt{{Kind: api.SGuard, Name: "a", Test: one, Node: one}, expr(one)}},
		{api.ErrClass, api.ErrClass, []api.Stmt{{Kind: api.SGuard, Slot: 1, Test: one, Node: one}, expr(one)}},
		{api.ErrClass, api.ErrClass, []api.Stmt{guard(add, one), expr(one)}},
		{api.ErrClass, api.ErrClass, []api.Stmt{guard(one, add), expr(one)}},
		{api.ErrClass, api.ErrClass, []api.Stmt{{Node: one}, expr(one)}},
		{api.ErrClass, api.ErrClass, []api.Stmt{{Kind: 4, Node: one}, expr(one)}},
	} {
		checkErrors(t, api.Node{Kind: api.NLambda, Class: api.FunClass, Body: c.body}, c.inLambda, c.inProgram, c.body...)
	}
}

func TestP1002Names(t *testing.T) {
	for _, s := range names() {
		e := api.ErrClass
		if expectName(s) {
			e = api.OK
		}
		checkErrors(t, api.Node{Kind: api.NName, Class: api.ArrayClass, Text: s}, e, e, define(s, one))
		checkErrors(t, lambda(define(s, add), expr(one)), e, e, define(s, one), define("z1", one))
	}
	for c := rune(0); c < 0x300; c++ {
		e, first := api.ErrClass, api.ErrClass
		if c >= 'a' && c <= 'z' {
			e, first = api.OK, api.OK
		} else if c >= '0' && c <= '9' {
			e = api.OK
		}
		s := string(c)
		checkErrors(t, api.Node{Kind: api.NName, Class: api.FunClass, Text: s}, first, first, define(s, one))
		checkErrors(t, api.Node{Kind: api.NName, Class: api.Op1Class, Text: "q" + s + "q"}, e, e, define("q"+s, one))
	}
	for class := api.Class(-1); class < 7; class++ {
		e := api.ErrClass
		if class >= 1 && class <= 4 {
			e = api.OK
		}
		checkErrors(t, api.Node{Kind: api.NName, Class: class, Text: "a"}, e, api.OK)
	}
}

func TestP1002Literals(t *testing.T) {
	valid := []api.Array{array.Scalar(0), array.Scalar(-api.MaxNum), array.Scalar(api.MaxNum), {Kind: api.Char, Nums: []int{0x10FFFF}}, array.Text(""), array.Text("a"), array.Text(strings.Repeat("a", api.MaxSize))}
	for _, a := range valid {
		checkErrors(t, literal(a), api.OK, api.OK, expr(literal(a)))
	}
	for _, a := range append(values(), api.Array{Kind: api.Char, Shape: []int{api.MaxSize + 1}, Nums: make([]int, api.MaxSize+1)}) {
		checkNode(t, literal(a))
		checkRight(t, expr(literal(a)))
	}
}

func TestP1002Kids(t *testing.T) {
	parts := []api.Node{one, add, op(api.OEach), op(api.OInner), op(api.ORank), op(api.OPower), op(api.OStencil), op(api.OAtop), name("p"), name("o"), {}}
	for kind := api.NLiteral; kind <= api.NOperator; kind++ {
		for class := api.ArrayClass; class <= api.Op2Class; class++ {
			for i, x := range parts {
				checkNode(t, of(kind, class, x))
				for j, y := range parts {
					checkNode(t, of(kind, class, x, y))
					for _, z := range parts {
						checkNode(t, of(kind, class, x, y, z))
						checkNode(t, of(kind, class, parts[i], parts[j], z, x))
					}
				}
			}
		}
	}
}

func TestP1002Variants(t *testing.T) {
	for _, n := range slices.Concat(arrays(), funs(), op1s(), op2s(), loose()) {
		for _, other := range variants(n) {
			checkNode(t, other)
			// What is wrong within a node makes the nodes around it wrong.
			var around api.Node
			switch n.Class {
			case api.ArrayClass:
				around = lambda(guard(one, strand(one, other)), expr(one))
			case api.FunClass:
				around = lambda(define("a", monad(other, one)), expr(one))
			default:
				around = lambda(define("f", derive1(add, other)), guard(one, one), expr(one))
			}
			checkRight(t, define("a1", around))
		}
	}
}

func TestP1002StatementVariants(t *testing.T) {
	for _, s := range []api.Stmt{expr(one), define("a", one), define("f", add), define("o", lambda(expr(monad(f, one)))), guard(one, strand(one, two))} {
		for _, other := range statementVariants(s) {
			checkRight(t, other)
			checkRight(t, define("a", one), other)
			checkRight(t, expr(one), other, expr(one))
			checkNode(t, lambda(other, expr(one)))
			checkNode(t, lambda(expr(right), define("a", add), other))
			checkNode(t, lambda(other))
		}
	}
}

// mutated returns n with a node somewhere within it replaced by one of its variants.
func mutated(n api.Node, pick func(int) int) api.Node {
	n.Kids, n.Body = slices.Clone(n.Kids), slices.Clone(n.Body)
	switch at := pick(len(n.Kids) + len(n.Body) + 1); {
	case at < len(n.Kids):
		n.Kids[at] = mutated(n.Kids[at], pick)
	case at < len(n.Kids)+len(n.Body):
		s := &n.Body[at-len(n.Kids)]
		if s.Kind == api.SGuard && pick(2) == 0 {
			s.Test = mutated(s.Test, pick)
		} else {
			s.Node = mutated(s.Node, pick)
		}
	default:
		list := variants(n)
		return list[pick(len(list))]
	}
	return n
}

func TestP1002Varied(t *testing.T) {
	pick := below()
	m := maker{pick: pick}
	for i, n := range varied(800) {
		if expectRight(n, false, false) != api.OK {
			t.Fatalf("a varied node is not valid: %s", brief(n))
		}
		checkNode(t, n)
		checkNode(t, mutated(n, pick))
		body := append(m.statements(5, i%5 == 0), expr(m.array(3)))
		checkRight(t, body...)
		other := mutated(api.Node{Kind: api.NLambda, Class: api.FunClass, Body: body}, pick)
		checkRight(t, other.Body...)
		checkNode(t, other)
	}
}

func TestP1002ErrLong(t *testing.T) {
	for _, s := range []api.Stmt{expr(one), {}, guard(one, one), expr(towers(62)[0])} {
		for count, want := range map[int]api.Errno{api.MaxStmts: Right(program(s)), api.MaxStmts + 1: api.ErrLong, 3 * api.MaxStmts: api.ErrLong} {
			if e := Right(program(slices.Repeat([]api.Stmt{s}, count)...)); e != want {
				t.Errorf("Right for %d times %s = %d; want %d", count, brief(s), e, want)
			}
		}
	}
	most := slices.Repeat([]api.Stmt{expr(one)}, api.MaxStmts)
	checkErrors(t, lambda(most...), api.OK, api.OK, define("a", lambda(most...)))
	more := append(most, expr(one))
	checkErrors(t, lambda(more...), api.ErrClass, api.ErrLong, more...)
	checkErrors(t, lambda(expr(monad(lambda(more...), one))), api.ErrClass, api.ErrClass, define("a", lambda(more...)))
}

func TestP1002ErrDeep(t *testing.T) {
	for deep, want := range map[int]api.Errno{2: api.OK, 40: api.OK, 58: api.OK, 60: api.OK, 62: api.ErrDeep, 64: api.ErrDeep, 300: api.ErrDeep} {
		for _, n := range towers(deep) {
			checkNode(t, n)
			checkErrors(t, n, want, want, define("a", n))
			checkErrors(t, n, want, want, define("b", one), expr(one), define("a", n), expr(one))
		}
	}
	for _, n := range towers(60) {
		around, invalid := train(add, lambda(define("a", n), expr(one))), api.Node{Kids: []api.Node{n}}
		checkErrors(t, around, api.ErrDeep, api.ErrDeep, define("f", around))
		checkErrors(t, invalid, api.ErrDeep, api.ErrDeep, expr(invalid))
		checkErrors(t, monad(add, one), api.OK, api.ErrDeep, guard(invalid, one))
		// A test that does not belong to its body is not part of its depth.
		checkErrors(t, monad(add, one), api.OK, api.ErrClass, api.Stmt{Kind: api.SExpr, Test: invalid, Node: one})
		checkErrors(t, monad(add, one), api.OK, api.ErrClass, api.Stmt{Kind: api.SDefine, Name: "a", Test: invalid, Node: one})
		checkErrors(t, monad(add, one), api.OK, api.ErrClass, api.Stmt{Test: invalid, Node: one})
		other := api.Node{Body: []api.Stmt{{Kind: 9, Test: invalid, Node: one}}}
		checkErrors(t, other, api.ErrClass, api.ErrClass, expr(other))
	}
	// All kinds of nodes may have parts that they should not have.
	for kind := api.NodeKind(-1); kind < 20; kind++ {
		kids, body := one, one
		for range 60 {
			kids, body = api.Node{Kind: kind, Kids: []api.Node{one, kids}}, api.Node{Kind: kind, Body: []api.Stmt{{}, {Node: body}}}
		}
		checkErrors(t, kids, api.ErrDeep, api.ErrDeep, expr(kids))
		checkErrors(t, body, api.ErrDeep, api.ErrDeep, expr(body))
		checkErrors(t, kids.Kids[1], api.ErrClass, api.ErrClass, expr(kids.Kids[1]))
		checkErrors(t, body.Body[1].Node, api.ErrClass, api.ErrClass, expr(body.Body[1].Node))
	}
}

func TestP1002ErrLimit(t *testing.T) {
	for count, want := range map[int]api.Errno{api.MaxNodes - 1: api.OK, api.MaxNodes: api.OK, api.MaxNodes + 1: api.ErrLimit, api.MaxNodes + 2: api.ErrLimit, 17001: api.ErrLimit} {
		n := wide(count)
		checkNode(t, n)
		checkErrors(t, n, want, want, expr(n))
		n = wide(count - 2)
		checkErrors(t, monad(add, n), want, want, expr(one), expr(n), expr(one))
		checkErrors(t, lambda(guard(n, one), define("a", one), expr(one)), map[bool]api.Errno{true: api.OK, false: api.ErrLimit}[count < api.MaxNodes-1], want, expr(one), define("f", one), expr(n))
		// The test of a guard counts, any other one does not.
		checkErrors(t, strand(one, n), want, map[api.Errno]api.Errno{api.OK: api.ErrClass, api.ErrLimit: api.ErrLimit}[want], guard(n, one), expr(one))
		checkErrors(t, one, api.OK, api.ErrClass, api.Stmt{Kind: api.SExpr, Test: wide(17000), Node: one})
	}
	for _, n := range []api.Node{of(0, 0, wide(17000)), {Kind: api.NLiteral, Body: []api.Stmt{{Node: wide(17000)}}}, strand(slices.Repeat([]api.Node{{}}, 1<<17)...)} {
		checkErrors(t, n, api.ErrLimit, api.ErrLimit, expr(n))
	}
	most, more := strand(slices.Repeat([]api.Node{one}, api.MaxStrand)...), strand(slices.Repeat([]api.Node{one}, api.MaxStrand+1)...)
	checkErrors(t, most, api.OK, api.OK, expr(most))
	checkErrors(t, more, api.ErrClass, api.ErrClass, expr(more))
}

func TestP1002FirstError(t *testing.T) {
	invalid, large, deep := strand(one), wide(17000), towers(62)
	for _, tower := range deep {
		for _, n := range []api.Node{strand(large, tower), strand(tower, large), of(0, 9, invalid, tower), strand(invalid, large, tower, invalid), strand(large, strand(large, tower)), {Kind: api.NLambda, Body: []api.Stmt{expr(large), {Node: tower}}}} {
			checkErrors(t, n, api.ErrDeep, api.ErrDeep, expr(n))
			checkErrors(t, invalid, api.ErrClass, api.ErrDeep, expr(large), expr(invalid), api.Stmt{}, expr(n))
			checkErrors(t, invalid, api.ErrClass, api.ErrLong, slices.Repeat([]api.Stmt{expr(n)}, api.MaxStmts+1)...)
		}
	}
	for _, n := range []api.Node{strand(large, invalid), strand(invalid, large), of(0, 9, large), strand(large, f), strand(left, large)} {
		checkErrors(t, n, api.ErrLimit, api.ErrLimit, expr(n))
		checkErrors(t, n, api.ErrLimit, api.ErrLimit, expr(invalid), define("a", op(api.OEach)), guard(n, one))
		checkErrors(t, n, api.ErrLimit, api.ErrLong, slices.Repeat([]api.Stmt{expr(n)}, api.MaxStmts+1)...)
	}
	checkErrors(t, invalid, api.ErrClass, api.ErrLong, slices.Repeat([]api.Stmt{{}}, api.MaxStmts+1)...)
}

// isSame is what P1003 says of Same.
func isSame(a, b api.Node) bool { return reflect.DeepEqual(plain(a), plain(b)) }

func TestP1003AllPairs(t *testing.T) {
	list := slices.Concat(arrays(), funs(), op1s(), op2s(), loose(), varied(150))
	copies := slices.Clone(list)
	for i, n := range list {
		list[i], copies[i] = plain(n), moved(n, i%3)
	}
	for i, a := range list {
		for j, b := range list {
			want := reflect.DeepEqual(a, b)
			checkSame(t, copies[i], copies[j], want)
			if want != Same(a, b) || want != SameProgram(program(expr(a), define("a", b)), program(expr(b), define("a", a))) {
				t.Errorf("Same(%s, %s) is not %t", brief(a), brief(b), want)
			}
		}
	}
}

func TestP1003EachField(t *testing.T) {
	for _, n := range slices.Concat(arrays()[:9], funs()[:5], op1s()[:4], []api.Node{lambda(define("a1", one), guard(left, one), expr(strand(one, right)))}) {
		for _, other := range variants(n) {
			checkSame(t, n, other, isSame(n, other))
			checkSame(t, strand(one, monad(add, n)), strand(one, monad(add, other)), isSame(n, other))
			checkSame(t, lambda(guard(n, one), expr(n)), lambda(guard(n, one), expr(other)), isSame(n, other))
		}
	}
	for _, a := range values() {
		for _, b := range values() {
			checkSame(t, literal(a), literal(b), isSame(literal(a), literal(b)))
		}
	}
}

func TestP1003EachFieldOfStatements(t *testing.T) {
	for _, s := range []api.Stmt{expr(one), define("a", one), guard(one, strand(one, two)), {}} {
		for _, other := range statementVariants(s) {
			a, b := api.Node{Body: []api.Stmt{expr(one), s}}, api.Node{Body: []api.Stmt{expr(one), other}}
			want := isSame(a, b)
			checkSame(t, a, b, want)
			if SameProgram(api.Program{Body: a.Body}, api.Program{Body: b.Body}) != want || SameProgram(program(other), program(s)) != want {
				t.Errorf("SameProgram for %s and %s is not %t", brief(s), brief(other), want)
			}
		}
	}
}

func TestP1003Unseen(t *testing.T) {
	for _, n := range slices.Concat(examples()[:400], varied(100)) {
		checkSame(t, n, moved(n, 5), true)
		checkSame(t, n, moved(n, -7), true)
	}
	a := program(define("a", one), expr(two))
	b := program(api.Stmt{Kind: api.SDefine, At: 5, Name: "a", Slot: 7, Test: api.Node{At: 1, Depth: 2, Slot: 3, Slots: 4}, Node: moved(one, 9)}, api.Stmt{Kind: api.SExpr, At: -1, Slot: -1, Node: moved(two, -9)})
	if !SameProgram(a, b) || !SameProgram(b, a) {
		t.Error("offsets and slots make a difference")
	}
}

func TestP1003Lengths(t *testing.T) {
	for i := range 4 {
		for j := range 4 {
			a, b := slices.Repeat([]api.Node{one}, i), slices.Repeat([]api.Node{one}, j)
			checkSame(t, strand(a...), strand(b...), i == j)
			x, y := slices.Repeat([]api.Stmt{expr(one)}, i), slices.Repeat([]api.Stmt{expr(one)}, j)
			checkSame(t, api.Node{Body: x}, api.Node{Body: y}, i == j)
			if SameProgram(program(x...), program(y...)) != (i == j) {
				t.Errorf("SameProgram for %d and %d statements", i, j)
			}
		}
	}
}

func TestP1004Size(t *testing.T) {
	for _, c := range []struct {
		n    api.Node
		want int
	}{
		{one, 1}, {api.Node{}, 1}, {text("many characters"), 1}, {add, 1},
		{strand(one, two), 3}, {monad(add, one), 3}, {dyad(one, add, two), 4}, {strand(strand(one, two), one), 5},
		{derive1(add, op(api.OEach)), 3}, {derive2(add, op(api.ORank), strand(one, two)), 6}, {train(add, add, add), 4},
		{lambda(expr(one)), 2}, {lambda(expr(one), expr(one)), 3}, {lambda(guard(one, two), expr(one)), 4}, {lambda(define("a", strand(one, two)), expr(one)), 5},
		{api.Node{Body: []api.Stmt{{Test: strand(one, two), Node: one}}}, 2}, {api.Node{Body: []api.Stmt{{Kind: api.SExpr, Test: one}, {Kind: api.SDefine, Test: one}, {Kind: 4, Test: one}}}, 4},
		{api.Node{Kind: api.NLiteral, Kids: []api.Node{{}, one}, Body: []api.Stmt{{}, {Kind: api.SGuard}}}, 6},
	} {
		if got := Size(c.n); got != c.want {
			t.Errorf("Size(%s) = %d; want %d", brief(c.n), got, c.want)
		}
		if got := Size(strand(c.n, lambda(guard(one, one), expr(c.n)))); got != 2*c.want+4 {
			t.Errorf("Size of twice %s = %d; want %d", brief(c.n), got, 2*c.want+4)
		}
	}
}

func TestP1004Saturated(t *testing.T) {
	for _, count := range []int{16019, api.MaxNodes - 1, api.MaxNodes, api.MaxNodes + 1, api.MaxNodes + 2, 17001} {
		want := min(count, api.MaxNodes+1)
		if got := Size(wide(count)); got != want {
			t.Errorf("Size of %d nodes = %d", count, got)
		}
		chain, stmts := one, slices.Repeat([]api.Stmt{{}}, count-1)
		for range count - 1 {
			chain = strand(chain)
		}
		if Size(chain) != want || Size(api.Node{Body: stmts}) != want || Size(strand(slices.Repeat([]api.Node{{}}, count-1)...)) != want {
			t.Errorf("Size of %d nodes in other ways", count)
		}
	}
	if got := Size(strand(slices.Repeat([]api.Node{wide(17000)}, 1000)...)); got != api.MaxNodes+1 {
		t.Errorf("Size of very many nodes = %d", got)
	}
}

func TestP1004Class(t *testing.T) {
	for class, list := range map[api.Class][]api.Node{api.ArrayClass: arrays(), api.FunClass: funs(), api.Op1Class: op1s(), api.Op2Class: op2s()} {
		for _, n := range list {
			if got := Class(n); got != class {
				t.Errorf("Class(%s) = %d", brief(n), got)
			}
		}
	}
	for _, i := range strange() {
		if got := Class(api.Node{Class: api.Class(i)}); got != api.Class(i) {
			t.Errorf("Class = %d; want %d", got, i)
		}
	}
}

func TestP1005Examples(t *testing.T) {
	sum := derive1(add, op(api.OReduce))
	mean := train(sum, prim(api.PDiv), prim(api.PTally))
	pair := strand(one, two)
	factorial := lambda(guard(dyad(right, prim(api.PLess), two), one), expr(dyad(right, prim(api.PMul), monad(self, dyad(right, prim(api.PSub), one)))))
	for _, c := range []struct {
		n    api.Node
		want string
	}{
		{monad(mean, pair), "( + / % tally ) 1 2"},
		{factorial, "{ Y < 2 : 1 ; Y * self Y - 1 }"},
		{mean, "+ / % tally"},
		{number(-5), "_5"}, {text("a\"\n"), `"a\"\n"`}, {text(""), `""`}, {char('\''), `'\''`}, {char('"'), `'"'`}, {name("ab1"), "ab1"},
		{left, "X"}, {right, "Y"}, {input, "arg"}, {self, "self"}, {f, "F"}, {g, "G"}, {add, "+"}, {op(api.OStencil), "stencil"}, {op(api.OScan), `\`},
		{strand(pair, one, text("a")), `( 1 2 ) 1 "a"`}, {strand(monad(add, one), dyad(one, add, two)), "( + 1 ) ( 1 + 2 )"}, {strand(left, name("a")), "X a"},
		{monad(add, pair), "+ 1 2"}, {monad(add, monad(add, dyad(one, add, two))), "+ + 1 + 2"}, {monad(sum, one), "+ / 1"}, {monad(factorial, one), "{ Y < 2 : 1 ; Y * self Y - 1 } 1"},
		{dyad(pair, add, pair), "1 2 + 1 2"}, {dyad(monad(add, one), add, two), "( + 1 ) + 2"}, {dyad(dyad(one, add, two), add, dyad(one, add, two)), "( 1 + 2 ) + 1 + 2"}, {dyad(one, train(add, add), two), "1 ( + + ) 2"},
		{derive1(sum, op(api.OEach)), "+ / each"}, {derive1(train(add, add), op(api.OEach)), "( + + ) each"}, {derive1(add, name("o")), "+ o"}, {derive1(add, lambda(expr(monad(f, right)))), "+ { F Y }"}, {derive1(lambda(expr(right)), op(api.OEach)), "{ Y } each"},
		{derive2(add, op(api.ORank), one), "+ rank 1"}, {derive2(sum, op(api.ORank), pair), "+ / rank ( 1 2 )"}, {derive2(add, op(api.OPower), monad(add, one)), "+ power ( + 1 )"}, {derive2(add, op(api.OStencil), dyad(one, add, two)), "+ stencil ( 1 + 2 )"},
		{derive2(add, op(api.OInner), prim(api.PMul)), "+ inner *"}, {derive2(train(add, add), op(api.OAtop), train(add, add)), "( + + ) atop ( + + )"}, {derive2(sum, op(api.OOver), sum), "+ / over ( + / )"}, {derive2(add, name("p"), derive2(add, op(api.OInner), add)), "+ p ( + inner + )"},
		{derive2(derive2(add, op(api.OInner), add), name("p"), lambda(expr(right))), "+ inner + p { Y }"}, {derive2(add, lambda(expr(monad(g, right))), add), "+ { G Y } +"},
		{train(add, mean), "+ ( + / % tally )"}, {train(mean, add), "( + / % tally ) +"}, {train(add, mean, sum), "+ ( + / % tally ) + /"}, {train(pair, add, add), "1 2 + +"}, {train(one, add, add), "1 + +"}, {train(monad(add, one), add, add), "( + 1 ) + +"}, {train(dyad(one, add, two), add, add), "( 1 + 2 ) + +"},
		{lambda(define("ab", mean), define("a", lambda(expr(right))), guard(pair, monad(add, one)), expr(one), expr(pair)), "{ ab <- + / % tally ; a <- { Y } ; 1 2 : + 1 ; 1 ; 1 2 }"}, {lambda(guard(dyad(one, add, two), dyad(one, add, two)), expr(dyad(one, add, two))), "{ 1 + 2 : 1 + 2 ; 1 + 2 }"},
	} {
		if s := Show(c.n); s != c.want {
			t.Errorf("Show(%s) = %q; want %q", brief(c.n), s, c.want)
		}
		if s := Show(moved(c.n, 4)); s != c.want {
			t.Errorf("Show of moved %s = %q; want %q", brief(c.n), s, c.want)
		}
	}
}

func TestP1005Primitives(t *testing.T) {
	for i, s := range strings.Fields(functions) {
		n := prim(api.Prim(i + 1))
		if Show(n) != s || Show(monad(n, one)) != s+" 1" || Show(dyad(one, n, two)) != "1 "+s+" 2" {
			t.Errorf("Show for function %d is %q", i+1, Show(n))
		}
	}
	for i, s := range strings.Fields(operators) {
		n := op(api.Op(i + 1))
		if Show(n) != s {
			t.Errorf("Show for operator %d is %q", i+1, Show(n))
		}
	}
}

// checkShow checks Show for the valid node n against the chapter's words.
func checkShow(t *testing.T, n api.Node) {
	t.Helper()
	if s, want := Show(n), expectText(n); s != want || s == "" {
		t.Errorf("Show(%s) = %q; want %q", brief(n), s, want)
	}
}

func TestP1005AllPlaces(t *testing.T) {
	for _, n := range examples() {
		checkShow(t, n)
		switch n.Class {
		case api.ArrayClass:
			for _, around := range []api.Node{strand(n, one, n), monad(add, n), dyad(n, add, n), derive2(add, op(api.ORank), n), train(n, add, add), lambda(guard(n, n), define("z", n), expr(n), expr(n))} {
				checkShow(t, around)
			}
		case api.FunClass:
			for _, around := range []api.Node{monad(n, one), dyad(one, n, one), derive1(n, op(api.OEach)), derive2(n, op(api.ORank), one), derive2(n, op(api.OOver), n), train(n, n), train(n, n, n), train(one, n, n), lambda(define("z", n), expr(one))} {
				checkShow(t, around)
			}
		}
	}
}

func TestP1005Invalid(t *testing.T) {
	// What must be within a lambda is shown without one, and nothing else that RightNode refuses.
	for _, n := range loose() {
		if Show(n) == "" || RightNode(n) != api.ErrClass {
			t.Errorf("Show(%s) = %q", brief(n), Show(n))
		}
	}
	wrong := []api.Node{{}, strand(one), monad(one, one), monad(add, strand(one, monad(add, add))), lambda(), lambda(expr(add)), lambda(expr(one), guard(one, one)), {Kind: api.NLambda, Class: api.FunClass, Body: []api.Stmt{expr(monad(f, one))}}, {Kind: api.NLambda, Class: api.Op1Class, Body: []api.Stmt{expr(one)}}, wide(api.MaxNodes + 1), {Kind: api.NRight, Class: api.FunClass}, {Kind: api.NRight, Class: api.ArrayClass, At: -1}, literal(array.Vector(1, 2)), literal(api.Array{})}
	for _, n := range append(wrong, towers(62)...) {
		if s := Show(n); s != "" {
			t.Errorf("Show(%s) = %q", brief(n), s)
		}
	}
	for _, n := range append(towers(60), wide(api.MaxNodes), lambda(slices.Repeat([]api.Stmt{expr(one)}, api.MaxStmts)...)) {
		checkShow(t, n)
	}
}

// reader reads the tokens of an expression by the rules of chapter 12, where the first letter of a name tells its class.
type reader struct {
	tokens []api.Token
	at     int
}

// parse returns the node of the expression that s consists of, or false if it is none.
func parse(s string) (n api.Node, ok bool) {
	defer func() {
		if recover() != nil {
			n, ok = api.Node{}, false
		}
	}()
	tokens, fault := token.Scan(s)
	r := reader{tokens: tokens}
	n = r.expression()
	return n, fault.Kind == api.OK && r.at == len(tokens)
}

// next returns the text of the next symbol, and reads the token if it is this symbol.
func (r *reader) next(symbol string) bool {
	if r.at == len(r.tokens) || r.tokens[r.at].Kind != api.TSymbol || r.tokens[r.at].Text != symbol {
		return false
	}
	r.at++
	return true
}

func (r *reader) must(symbol string) {
	if !r.next(symbol) {
		panic("there is no " + symbol)
	}
}

// primary reads a primary, or returns false if none begins here.
func (r *reader) primary() (api.Node, bool) {
	if r.at == len(r.tokens) {
		return api.Node{}, false
	}
	tok := r.tokens[r.at]
	words := map[string]api.Node{"X": left, "Y": right, "arg": input, "self": self, "F": f, "G": g}
	switch word, isWord := words[tok.Text]; {
	case tok.Kind == api.TNumber:
		r.at++
		return number(tok.Num), true
	case tok.Kind == api.TChar:
		r.at++
		return char(rune(tok.Num)), true
	case tok.Kind == api.TString:
		r.at++
		return text(tok.Text), true
	case tok.Kind == api.TName:
		r.at++
		return name(tok.Text), true
	case r.next("("):
		n := r.expression()
		r.must(")")
		return n, true
	case r.next("{"):
		n := r.lambda()
		r.must("}")
		return n, true
	case isWord:
		r.at++
		return word, true
	case tok.Kind == api.TSymbol && slices.Contains(strings.Fields(functions), tok.Text):
		r.at++
		return prim(api.Prim(slices.Index(strings.Fields(functions), tok.Text) + 1)), true
	case tok.Kind == api.TSymbol && slices.Contains(strings.Fields(operators), tok.Text):
		r.at++
		return op(api.Op(slices.Index(strings.Fields(operators), tok.Text) + 1)), true
	}
	return api.Node{}, false
}

func (r *reader) lambda() api.Node {
	var body []api.Stmt
	for {
		if tok := r.tokens[r.at]; tok.Kind == api.TName && r.tokens[r.at+1].Text == "<-" && r.tokens[r.at+1].Kind == api.TSymbol {
			r.at += 2
			body = append(body, define(tok.Text, r.expression()))
		} else if n := r.expression(); r.next(":") {
			body = append(body, guard(n, r.expression()))
		} else {
			body = append(body, expr(n))
		}
		if r.tokens[r.at].Kind != api.TBreak {
			return lambda(body...)
		}
		r.at++
	}
}

// expression reads the items of an expression, and returns the node of it.
func (r *reader) expression() api.Node {
	var items []api.Node
	for {
		n, ok := r.primary()
		if !ok {
			return build(items)
		}
		items = append(items, n)
	}
}

// build returns the node of an expression with these items, in the steps of chapter 12.
func build(items []api.Node) api.Node {
	if len(items) == 1 {
		return items[0]
	}
	var list []api.Node
	for i := 0; i < len(items); i++ {
		switch n := items[i]; n.Class {
		case api.Op1Class, api.Op2Class:
			last := &list[len(list)-1]
			if last.Class != api.FunClass {
				panic("the operand is no function")
			}
			if n.Class == api.Op1Class {
				*last = derive1(*last, n)
				break
			}
			i++
			if takesArray := n.Kind == api.NOperator && n.Op >= api.ORank && n.Op <= api.OStencil; takesArray != (items[i].Class == api.ArrayClass) || items[i].Class > api.FunClass {
				panic("the right operand is of the wrong class")
			}
			*last = derive2(*last, n, items[i])
		default:
			list = append(list, n)
		}
	}
	return apply(strands(list))
}

// strands joins adjacent arrays to strands.
func strands(items []api.Node) []api.Node {
	var list []api.Node
	for i := 0; i < len(items); i++ {
		from := i
		for items[from].Class == api.ArrayClass && i+1 < len(items) && items[i+1].Class == api.ArrayClass {
			i++
		}
		if i > from {
			list = append(list, strand(items[from:i+1]...))
		} else {
			list = append(list, items[i])
		}
	}
	return list
}

// apply returns the application, or the train, of which an expression consists.
func apply(items []api.Node) api.Node {
	last := len(items) - 1
	n := items[last]
	if n.Class == api.FunClass {
		return trainOf(items)
	}
	for last > 0 {
		fun := items[last-1]
		if last -= 2; last >= 0 && items[last].Class == api.ArrayClass {
			n = dyad(items[last], fun, n)
		} else {
			n = monad(fun, n)
			last++
		}
		if fun.Class != api.FunClass {
			panic("there is no function")
		}
	}
	return n
}

func trainOf(items []api.Node) api.Node {
	switch {
	case len(items) == 1:
		return items[0]
	case len(items) <= 3:
		if items[0].Class == api.ArrayClass && len(items) == 2 || items[1].Class == api.ArrayClass {
			panic("an array is where none is allowed")
		}
		return train(items...)
	case len(items)%2 == 0:
		return train(items[0], trainOf(items[1:]))
	}
	return train(items[0], items[1], trainOf(items[2:]))
}

// checkRoundTrip checks that parsing Show of n gives n.
func checkRoundTrip(t *testing.T, n api.Node) {
	t.Helper()
	s := Show(n)
	if other, ok := parse(s); !ok || !Same(other, n) {
		t.Errorf("parsing %q, Show(%s), gives %s, %t", s, brief(n), brief(other), ok)
	}
}

func TestP1006Parser(t *testing.T) {
	for s, want := range map[string]string{
		"1 2+iota 3": "1 2 + iota 3", "+/%tally": "+ / % tally", "((1))": "1", "(1 2)(3)": "( 1 2 ) 3", "+(1)": "+ 1", "- + * %": "- ( + * % )", "1 - + * %": "1 - ( + * % )", "- + * % /": "- ( + * % / )",
		"{X;Y}": "{ X ; Y }", "1+2+3": "1 + 2 + 3", "(1+2)+3": "( 1 + 2 ) + 3", "+ rank 1 2": "+ rank 1 2", "+ rank(1 2)2": "+ rank ( 1 2 ) 2", "(+ -)1": "( + - ) 1", "1 (2 3)": "1 ( 2 3 )", "{F Y}": "{ F Y }", "+(-/)": "+ - /", "+ over (- /)": "+ over ( - / )",
	} {
		n, ok := parse(s)
		if got := Show(n); !ok || got != want {
			t.Errorf("%q is shown as %q, %t; want %q", s, got, ok, want)
		}
	}
	for _, s := range []string{"", "(", "1 /", "/ +", "+ rank -", "+ over 1", "+ 1 -", "1 -", "{}", "{1", "1)", "+ o p 1"} {
		if n, ok := parse(s); ok && RightNode(n) == api.OK {
			t.Errorf("%q is read as %s", s, brief(n))
		}
	}
}

func TestP1006AllPlaces(t *testing.T) {
	for _, n := range examples() {
		checkRoundTrip(t, n)
	}
	for _, n := range slices.Concat(arrays(), funs(), loose()) {
		switch n.Class {
		case api.ArrayClass:
			for _, around := range []api.Node{strand(n, one, n), monad(add, n), dyad(n, add, n), derive2(add, op(api.ORank), n), monad(derive2(add, op(api.ORank), n), n), train(n, add, add), lambda(guard(n, n), define("a", n), expr(n), expr(n))} {
				checkRoundTrip(t, around)
			}
		case api.FunClass:
			for _, around := range []api.Node{monad(n, one), dyad(one, n, one), derive1(n, op(api.OEach)), derive2(n, op(api.ORank), one), derive2(n, op(api.OOver), n), train(n, n), train(n, n, n), train(one, n, n), train(n, train(n, n), n), lambda(define("f", n), expr(one))} {
				checkRoundTrip(t, around)
			}
		}
	}
}

func TestP1006Varied(t *testing.T) {
	for _, n := range varied(2000) {
		checkRoundTrip(t, n)
	}
	// Each inner strand of the wide one is one node, but two parentheses, so a wider one would have too many tokens.
	for _, n := range append(towers(60), wide(api.MaxNodes-15)) {
		checkRoundTrip(t, n)
	}
	for c := rune(0); c < 0x500; c++ {
		checkRoundTrip(t, strand(char(c), text(string(c)+"a"), number(int(c)), number(-int(c))))
	}
}
