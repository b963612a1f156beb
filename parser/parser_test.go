package parser

import (
	"fmt"
	goparser "go/parser"
	gotoken "go/token"
	"math/rand"
	"reflect"
	"regexp"
	"runtime"
	"slices"
	"strconv"
	"strings"
	"sync"
	"testing"
	"time"

	"arraylang/api"
	"arraylang/syntax"
	"arraylang/token"
)

// prims are the names of the primitive functions.
var prims = map[string]api.Prim{
	"+": api.PAdd, "-": api.PSub, "*": api.PMul, "%": api.PDiv, "|": api.PMod, "^": api.PPow, "min": api.PMin, "max": api.PMax,
	"<": api.PLess, "<=": api.PLessEq, "=": api.PEqual, "~=": api.PNotEqual, ">=": api.PGreaterEq, ">": api.PGreater,
	"and": api.PAnd, "or": api.POr, "not": api.PNot, "shape": api.PShape, "reshape": api.PReshape, "tally": api.PTally,
	"depth": api.PDepth, ",": api.PJoin, "stack": api.PStack, "iota": api.PIota, "take": api.PTake, "drop": api.PDrop,
	"first": api.PFirst, "reverse": api.PReverse, "rotate": api.PRotate, "transpose": api.PTranspose, "from": api.PFrom,
	"pick": api.PPick, "select": api.PSelect, "amend": api.PAmend, "up": api.PUp, "down": api.PDown, "sort": api.PSort,
	"find": api.PFind, "in": api.PIn, "unique": api.PUnique, "where": api.PWhere, "copy": api.PCopy, "expand": api.PExpand,
	"cut": api.PCut, "encode": api.PEncode, "decode": api.PDecode, "box": api.PBox, "open": api.POpen, "same": api.PSame,
	"kind": api.PKindOf, "ord": api.POrd, "chr": api.PChr, "format": api.PFormat, "left": api.PLeft, "right": api.PRight,
}

// ops are the names of the primitive operators, and classes the letters of their classes: 2 if the right operand is a function, 3 if it is an array.
var (
	ops = map[string]api.Op{
		"/": api.OReduce, "\\": api.OScan, "each": api.OEach, "swap": api.OSwap, "outer": api.OOuter, "inner": api.OInner,
		"rank": api.ORank, "power": api.OPower, "stencil": api.OStencil, "atop": api.OAtop, "over": api.OOver,
	}
	opLetters = map[api.Op]string{
		api.OReduce: "1", api.OScan: "1", api.OEach: "1", api.OSwap: "1", api.OOuter: "1", api.OInner: "2",
		api.ORank: "3", api.OPower: "3", api.OStencil: "3", api.OAtop: "2", api.OOver: "2",
	}
)

// nameOf returns the text of which value is the constant.
func nameOf[V comparable](names map[string]V, value V) string {
	for text, v := range names {
		if v == value {
			return text
		}
	}
	return "?"
}

// letters are the letters of the classes.
var letters = map[api.Class]string{api.ArrayClass: "a", api.FunClass: "f", api.Op1Class: "1", api.Op2Class: "2"}

// kinds are the words for the kinds of nodes that have other nodes within them, and the texts of those that are always the same.
var kinds = map[api.NodeKind]string{
	api.NStrand: "strand", api.NMonad: "monad", api.NDyad: "dyad", api.NDerive1: "derive1", api.NDerive2: "derive2", api.NTrain: "train", api.NLambda: "lambda",
	api.NLeft: "X", api.NRight: "Y", api.NInput: "arg", api.NSelf: "self", api.NOperand1: "F", api.NOperand2: "G",
}

// tree returns n as text that shows all of its fields. It contains a question mark if n has a field, or a value of one, that no node of its kind has after parsing.
func tree(n api.Node) string {
	rest := n
	rest.Kind, rest.At, rest.Class, rest.Kids = 0, 0, 0, nil
	text, class, within := kinds[n.Kind], "f", ""
	switch n.Kind {
	case api.NLiteral:
		text, class, rest.Value = literal(n.Value), "a", api.Array{}
	case api.NName:
		text, class, rest.Text = n.Text+":"+letters[n.Class], letters[n.Class], ""
	case api.NPrim:
		text, rest.Prim = nameOf(prims, n.Prim), 0
	case api.NOperator:
		text, class, rest.Op = nameOf(ops, n.Op), strings.Replace(opLetters[n.Op], "3", "2", 1), 0
	case api.NLambda:
		text, class, within, rest.Body = text+":"+letters[n.Class], letters[n.Class], "{"+bodyTree(n.Body)+"}", nil
	case api.NStrand, api.NMonad, api.NDyad, api.NLeft, api.NRight, api.NInput:
		class = "a"
	}
	if len(n.Kids) > 0 {
		var list []string
		for _, kid := range n.Kids {
			list = append(list, tree(kid))
		}
		within += "(" + strings.Join(list, " ") + ")"
	}
	if text == "" || class != letters[n.Class] || !reflect.ValueOf(rest).IsZero() {
		text += "?"
	}
	return text + "@" + strconv.Itoa(n.At) + within
}

// literal returns the value of a literal as text.
func literal(a api.Array) string {
	switch {
	case len(a.Items) > 0:
	case a.Kind == api.Int && len(a.Shape) == 0 && len(a.Nums) == 1:
		return strconv.Itoa(a.Nums[0])
	case a.Kind == api.Char && len(a.Shape) == 0 && len(a.Nums) == 1:
		return strconv.QuoteRune(rune(a.Nums[0]))
	case a.Kind == api.Char && len(a.Shape) == 1 && a.Shape[0] == len(a.Nums):
		var list []rune
		for _, c := range a.Nums {
			list = append(list, rune(c))
		}
		return strconv.Quote(string(list))
	}
	return "?"
}

// bodyTree returns statements as text like that of tree.
func bodyTree(body []api.Stmt) string {
	var list []string
	for _, s := range body {
		text := "?" + fmt.Sprint(s.Kind)
		switch test := tree(s.Test); {
		case s.Slot != 0 || s.Kind != api.SGuard && !reflect.ValueOf(s.Test).IsZero() || s.Kind != api.SDefine && s.Name != "":
		case s.Kind == api.SExpr:
			text = "expr"
		case s.Kind == api.SDefine:
			text = s.Name
		case s.Kind == api.SGuard:
			text = test + ":guard"
		}
		list = append(list, text+"@"+strconv.Itoa(s.At)+" "+tree(s.Node))
	}
	return strings.Join(list, "; ")
}

// isZero reports whether there is no fault at all.
func isZero(f api.Fault) bool { return reflect.ValueOf(f).IsZero() }

// isFault reports whether f has only these fields.
func isFault(f api.Fault, e api.Errno, at int, name string) bool {
	return f.Kind == e && f.At == at && f.Name == name && len(f.Left)+len(f.Right) == 0
}

// shown returns s as it is shown in a message.
func shown(s string) string {
	if len(s) > 300 {
		return strconv.Quote(s[:300]) + "... (" + strconv.Itoa(len(s)) + " bytes)"
	}
	return strconv.Quote(s)
}

// checkProgram checks that Parse returns a program with exactly these statements.
func checkProgram(t *testing.T, s, want string) {
	t.Helper()
	p, f := Parse(s)
	if got := bodyTree(p.Body); got != want || !isZero(f) {
		t.Errorf("Parse(%s) = %s, %+v; want %s", shown(s), shown(got), f, shown(want))
	}
}

// checkNode checks that Expression returns exactly this node.
func checkNode(t *testing.T, s, want string) {
	t.Helper()
	n, f := Expression(s)
	if got := tree(n); got != want || !isZero(f) {
		t.Errorf("Expression(%s) = %s, %+v; want %s", shown(s), shown(got), f, shown(want))
	}
}

// checkFault checks that Parse returns exactly this fault, and no program.
func checkFault(t *testing.T, s string, e api.Errno, at int, name string) {
	t.Helper()
	p, f := Parse(s)
	if len(p.Body) != 0 || !isFault(f, e, at, name) {
		t.Errorf("Parse(%s) = %s, %+v; want error %d at %d %s", shown(s), shown(bodyTree(p.Body)), f, e, at, name)
	}
}

// checkNodeFault checks that Expression returns exactly this fault, and no node.
func checkNodeFault(t *testing.T, s string, e api.Errno, at int, name string) {
	t.Helper()
	n, f := Expression(s)
	if !reflect.ValueOf(n).IsZero() || !isFault(f, e, at, name) {
		t.Errorf("Expression(%s) = %s, %+v; want error %d at %d %s", shown(s), shown(tree(n)), f, e, at, name)
	}
}

// fault is what is expected of a text that has one.
type fault struct {
	text string
	e    api.Errno
	at   int
	name string
}

func checkFaults(t *testing.T, list []fault) {
	t.Helper()
	for _, c := range list {
		checkFault(t, c.text, c.e, c.at, c.name)
	}
}

// The model parses by the words of the chapter: it combines items by rewriting the letters of their classes. It panics with the first fault.
type model struct {
	tokens   []api.Token
	at, end  int
	scopes   []map[string]api.Class
	mentions []string
	open     int
}

// expectParse returns what Parse must return.
func expectParse(s string) (p api.Program, f api.Fault) {
	defer func() { f, _ = recover().(api.Fault) }()
	m := newModel(s)
	body := m.body("")
	total := 0
	for _, s := range body {
		if depth(s.Node) > api.MaxDeep {
			stop(api.ErrDeep, s.At)
		}
		total += size(s.Node)
	}
	if total > api.MaxNodes {
		stop(api.ErrLimit, 0)
	}
	return api.Program{Body: body}, f
}

// expectExpression returns what Expression must return.
func expectExpression(s string) (n api.Node, f api.Fault) {
	defer func() { f, _ = recover().(api.Fault) }()
	m := newModel(s)
	result := m.expression()
	switch {
	case m.at < len(m.tokens):
		stop(api.ErrToken, m.tokens[m.at].At)
	case depth(result) > api.MaxDeep:
		stop(api.ErrDeep, result.At)
	case size(result) > api.MaxNodes:
		stop(api.ErrLimit, 0)
	}
	return result, f
}

func newModel(s string) *model {
	tokens, f := token.Scan(s)
	if f.Kind != api.OK {
		panic(f)
	}
	return &model{tokens: tokens, end: len(s), scopes: []map[string]api.Class{{}}}
}

func stop(e api.Errno, at int) { panic(api.Fault{Kind: e, At: at}) }

// inner returns the nodes directly within n.
func inner(n api.Node) []api.Node {
	list := slices.Clone(n.Kids)
	for _, s := range n.Body {
		if s.Kind == api.SGuard {
			list = append(list, s.Test)
		}
		list = append(list, s.Node)
	}
	return list
}

func size(n api.Node) int {
	total := 1
	for _, kid := range inner(n) {
		total += size(kid)
	}
	return total
}

func depth(n api.Node) int {
	deepest := 0
	for _, kid := range inner(n) {
		deepest = max(deepest, depth(kid))
	}
	return 1 + deepest
}

// sees reports whether the next token is one of these symbols, ; for any break and "" for the end.
func (m *model) sees(symbols ...string) bool {
	text := ""
	if m.at < len(m.tokens) {
		switch t := m.tokens[m.at]; t.Kind {
		case api.TBreak:
			text = ";"
		case api.TSymbol:
			text = t.Text
		default:
			text = "primary"
		}
	}
	return slices.Contains(symbols, text)
}

// here returns the offset of the next token, or of the end.
func (m *model) here() int {
	if m.at < len(m.tokens) {
		return m.tokens[m.at].At
	}
	return m.end
}

func (m *model) stopHere() {
	if m.at < len(m.tokens) {
		stop(api.ErrToken, m.here())
	}
	stop(api.ErrEnd, m.here())
}

// body reads statements up to the closing symbol, or to the end if it is "".
func (m *model) body(closing string) []api.Stmt {
	var list []api.Stmt
	for {
		for m.sees(";") {
			m.at++
		}
		if m.sees(closing) {
			return list
		}
		if len(list) == 1000 && !m.sees("", "}") {
			stop(api.ErrLimit, m.here())
		}
		list = append(list, m.statement())
		if !m.sees(";", closing) {
			m.stopHere()
		}
	}
}

func (m *model) statement() api.Stmt {
	at := m.here()
	if m.at+1 < len(m.tokens) && m.tokens[m.at].Kind == api.TName && m.tokens[m.at+1].Kind == api.TSymbol && m.tokens[m.at+1].Text == "<-" {
		name := m.tokens[m.at].Text
		m.at += 2
		n := m.expression()
		if strings.Contains("12", letters[n.Class]) && n.Kind != api.NLambda {
			stop(api.ErrClass, n.At)
		}
		scope := m.scopes[len(m.scopes)-1]
		if scope[name] != 0 {
			panic(api.Fault{Kind: api.ErrDuplicate, At: at, Name: name})
		}
		scope[name] = n.Class
		return api.Stmt{Kind: api.SDefine, At: at, Name: name, Node: n}
	}
	array := func(n api.Node) api.Node {
		if n.Class != api.ArrayClass {
			stop(api.ErrClass, n.At)
		}
		return n
	}
	n := m.expression()
	if !m.sees(":") {
		return api.Stmt{Kind: api.SExpr, At: at, Node: array(n)}
	}
	colon := m.here()
	if len(m.mentions) == 0 {
		stop(api.ErrToken, colon)
	}
	array(n)
	m.at++
	return api.Stmt{Kind: api.SGuard, At: colon, Test: n, Node: array(m.expression())}
}

func (m *model) expression() api.Node {
	var items []api.Node
	for !m.sees("", ";", ")", "}", ":", "<-") {
		items = append(items, m.primary())
	}
	if len(items) == 0 {
		m.stopHere()
	}
	return combined(items)
}

func (m *model) primary() api.Node {
	t := m.tokens[m.at]
	m.at++
	array := func(kind api.NodeKind) api.Node { return api.Node{Kind: kind, At: t.At, Class: api.ArrayClass} }
	function := func(kind api.NodeKind) api.Node { return api.Node{Kind: kind, At: t.At, Class: api.FunClass} }
	switch t.Kind {
	case api.TNumber, api.TChar, api.TString:
		n := array(api.NLiteral)
		n.Value = api.Array{Kind: api.Char, Nums: []int{t.Num}}
		if t.Kind == api.TNumber {
			n.Value.Kind = api.Int
		}
		if t.Kind == api.TString {
			n.Value.Nums = nil
			for _, c := range []rune(t.Text) {
				n.Value.Nums = append(n.Value.Nums, int(c))
			}
			n.Value.Shape = []int{len(n.Value.Nums)}
		}
		return n
	case api.TName:
		for i := len(m.scopes) - 1; i >= 0; i-- {
			if class := m.scopes[i][t.Text]; class != 0 {
				return api.Node{Kind: api.NName, At: t.At, Class: class, Text: t.Text}
			}
		}
		panic(api.Fault{Kind: api.ErrNotFound, At: t.At, Name: t.Text})
	}
	if strings.Contains("X Y self F G", t.Text) {
		if len(m.mentions) == 0 {
			stop(api.ErrToken, t.At)
		}
		m.mentions[len(m.mentions)-1] += t.Text
	}
	switch t.Text {
	case "(", "{":
		return m.bracket(t)
	case "arg":
		return array(api.NInput)
	case "X":
		return array(api.NLeft)
	case "Y":
		return array(api.NRight)
	case "self":
		return function(api.NSelf)
	case "F":
		return function(api.NOperand1)
	case "G":
		return function(api.NOperand2)
	}
	if op, ok := ops[t.Text]; ok {
		class := map[string]api.Class{"1": api.Op1Class, "2": api.Op2Class, "3": api.Op2Class}[opLetters[op]]
		return api.Node{Kind: api.NOperator, At: t.At, Class: class, Op: op}
	}
	n := function(api.NPrim)
	n.Prim = prims[t.Text]
	return n
}

// bracket reads what is left of the expression in parentheses, or of the lambda, whose opening bracket is t.
func (m *model) bracket(t api.Token) api.Node {
	if m.open == 60 {
		stop(api.ErrDeep, t.At)
	}
	m.open++
	defer func() { m.open-- }()
	if t.Text == "(" {
		n := m.expression()
		if !m.sees(")") {
			m.stopHere()
		}
		m.at++
		return n
	}
	m.scopes = append(m.scopes, map[string]api.Class{})
	m.mentions = append(m.mentions, "")
	body := m.body("}")
	m.at++
	if len(body) == 0 || body[len(body)-1].Kind != api.SExpr {
		stop(api.ErrResult, t.At)
	}
	last := len(m.mentions) - 1
	mentioned := m.mentions[last]
	m.scopes, m.mentions = m.scopes[:len(m.scopes)-1], m.mentions[:last]
	n := api.Node{Kind: api.NLambda, At: t.At, Class: api.FunClass, Body: body}
	if strings.Contains(mentioned, "G") {
		n.Class = api.Op2Class
	} else if strings.Contains(mentioned, "F") {
		n.Class = api.Op1Class
	}
	return n
}

// lettersOf returns the letters of the classes of items, with 3 for an operator whose right operand is an array.
func lettersOf(items []api.Node) string {
	var text strings.Builder
	for _, n := range items {
		if n.Kind == api.NOperator {
			text.WriteString(opLetters[n.Op])
		} else {
			text.WriteString(letters[n.Class])
		}
	}
	return text.String()
}

var (
	oneOperator = regexp.MustCompile(`^[123]$`)
	operators   = regexp.MustCompile(`f?(?:1|[23][af123]?)`)
	arrays      = regexp.MustCompile(`aa+`)
)

// combined returns the node of the expression that consists of items.
func combined(items []api.Node) api.Node {
	of := func(kind api.NodeKind, class api.Class, at int, kids ...api.Node) api.Node {
		return api.Node{Kind: kind, Class: class, At: at, Kids: kids}
	}
	items = slices.Clone(items)
	if oneOperator.MatchString(lettersOf(items)) {
		return items[0]
	}
	for place := operators.FindStringIndex(lettersOf(items)); place != nil; place = operators.FindStringIndex(lettersOf(items)) {
		from, to := place[0], place[1]
		switch text := lettersOf(items[from:to]); text {
		case "f1":
			items = slices.Replace(items, from, to, of(api.NDerive1, api.FunClass, items[from+1].At, items[from+1], items[from]))
		case "f2f", "f3a":
			items = slices.Replace(items, from, to, of(api.NDerive2, api.FunClass, items[from+1].At, items[from+1], items[from], items[from+2]))
		case "f2a", "f21", "f22", "f23", "f3f", "f31", "f32", "f33":
			stop(api.ErrClass, items[to-1].At)
		case "f2", "f3":
			stop(api.ErrClass, items[to-1].At)
		default:
			stop(api.ErrClass, items[from].At)
		}
	}
	for place := arrays.FindStringIndex(lettersOf(items)); place != nil; place = arrays.FindStringIndex(lettersOf(items)) {
		list := slices.Clone(items[place[0]:place[1]])
		if len(list) > 1000 {
			stop(api.ErrLimit, list[0].At)
		}
		items = slices.Replace(items, place[0], place[1], of(api.NStrand, api.ArrayClass, list[0].At, list...))
	}
	for len(items) > 1 && strings.HasSuffix(lettersOf(items), "fa") {
		if x := len(items) - 3; strings.HasSuffix(lettersOf(items), "afa") {
			items = append(items[:x], of(api.NDyad, api.ArrayClass, items[x+1].At, items[x+1], items[x], items[x+2]))
		} else {
			items = append(items[:x+1], of(api.NMonad, api.ArrayClass, items[x+1].At, items[x+1], items[x+2]))
		}
	}
	wrong := -1
	result := grouped(items, &wrong)
	if wrong >= 0 {
		stop(api.ErrClass, wrong)
	}
	return result
}

// grouped returns the train of items, or the only item. It sets wrong to the offset of the first array that is not allowed, if there is one.
func grouped(items []api.Node, wrong *int) api.Node {
	if len(items) == 1 {
		return items[0]
	}
	head := map[bool]int{true: 1, false: 2}[len(items)%2 == 0]
	for i, n := range items[:head] {
		if n.Class == api.ArrayClass && (i > 0 || head == 1) && *wrong < 0 {
			*wrong = n.At
		}
	}
	kids := append(slices.Clone(items[:head]), grouped(items[head:], wrong))
	return api.Node{Kind: api.NTrain, Class: api.FunClass, At: items[0].At, Kids: kids}
}

// problem returns what is wrong with the results of both calls for s, or "" if they are those of the model.
func problem(s string) string {
	p, f := Parse(s)
	n, g := Expression(s)
	wantP, wantF := expectParse(s)
	wantN, wantG := expectExpression(s)
	if got, want := bodyTree(p.Body), bodyTree(wantP.Body); got != want || !reflect.DeepEqual(f, wantF) {
		return fmt.Sprintf("Parse(%s) = %s, %+v; want %s, %+v", shown(s), shown(got), f, shown(want), wantF)
	}
	if got, want := tree(n), tree(wantN); got != want || !reflect.DeepEqual(g, wantG) {
		return fmt.Sprintf("Expression(%s) = %s, %+v; want %s, %+v", shown(s), shown(got), g, shown(want), wantG)
	}
	if f.Kind == api.OK && syntax.Right(p) != api.OK || g.Kind == api.OK && syntax.RightNode(n) != api.OK {
		return fmt.Sprintf("the results of Parse(%s) and Expression are not valid", shown(s))
	}
	if text := roundTrip(s, p, n, f, g); text != "" {
		return text
	}
	return ""
}

// roundTrip returns what is wrong with the results for texts that say the same as s, whose results are given.
func roundTrip(s string, p api.Program, n api.Node, f, g api.Fault) string {
	tokens, _ := token.Scan(s)
	text := token.Show(tokens)
	if again, fault := Parse(text); f.Kind == api.OK && (fault.Kind != api.OK || !syntax.SameProgram(again, p)) {
		return fmt.Sprintf("Parse(%s) is not the same as Parse(%s)", shown(text), shown(s))
	}
	if g.Kind != api.OK {
		return ""
	}
	for _, text := range []string{text, "( " + text + " )", "(((" + text + ")))", syntax.Show(n)} {
		if again, fault := Expression(text); fault.Kind != api.OK || !syntax.Same(again, n) {
			return fmt.Sprintf("Expression(%s) is not the same as Expression(%s)", shown(text), shown(s))
		}
	}
	return ""
}

// checkModel checks both calls for all texts that give sends, on all processors.
func checkModel(t *testing.T, give func(send func(s string))) {
	t.Helper()
	texts := make(chan []string, 100)
	var wait sync.WaitGroup
	for range runtime.NumCPU() {
		wait.Add(1)
		go func() {
			defer wait.Done()
			for list := range texts {
				for _, s := range list {
					if text := problem(s); text != "" && !t.Failed() {
						t.Error(text)
					}
				}
			}
		}()
	}
	var list []string
	give(func(s string) {
		if list = append(list, s); len(list) == 100 {
			texts <- list
			list = nil
		}
	})
	texts <- list
	close(texts)
	wait.Wait()
}

// sequences calls send with all sequences of the parts, of up to the given length, between before and behind.
func sequences(send func(s string), length int, before, behind string, parts ...string) {
	send(before + behind)
	if length == 0 {
		return
	}
	for _, part := range parts {
		sequences(send, length-1, before+part+" ", behind, parts...)
	}
}

// maker makes random programs, of which most are valid. names are the names in the innermost body by the letters of their classes, and within is "" outside lambdas, and otherwise the operands of the innermost one.
type maker struct {
	*rand.Rand
	names  map[string][]string
	within string
}

func (m maker) one(list ...string) string { return list[m.Intn(len(list))] }

// named returns a name of the class with this letter, or other if there is none.
func (m maker) named(letter, other string) string {
	if list := m.names[letter]; len(list) > 0 && m.Intn(3) > 0 {
		return m.one(list...)
	}
	return other
}

func (m maker) array(deep int) string {
	leaves := []string{"1", "_2", "007", "'a'", `'\n'`, `""`, `"b"`, `"é\u{1f600}"`, "arg", m.named("a", "3"), m.named("a", "4")}
	if m.within != "" {
		leaves = append(leaves, "X", "Y", "Y", "Y")
	}
	if deep <= 0 {
		return m.one(leaves...)
	}
	switch m.Intn(6) {
	case 0:
		return m.one(leaves...) + " " + m.one(leaves...) + " " + m.array(deep-1)
	case 1:
		return "(" + m.array(deep-1) + ")" + m.array(0)
	case 2, 3:
		return m.function(deep-1) + " " + m.array(deep-1)
	}
	return m.array(0) + " " + m.function(deep-1) + " " + m.array(deep-1)
}

func (m maker) function(deep int) string {
	leaves := []string{"+", "-", "<=", "iota", "reverse", m.named("f", "="), m.named("f", ",")}
	if m.within != "" {
		leaves = append(leaves, "self")
	}
	if strings.Contains(m.within, "F") {
		leaves = append(leaves, "F", "F")
	}
	if strings.Contains(m.within, "G") {
		leaves = append(leaves, "G", "G")
	}
	if deep <= 0 {
		return m.one(leaves...)
	}
	switch m.Intn(6) {
	case 0:
		return m.function(deep-1) + " " + m.operator1(deep-1)
	case 1:
		return m.function(deep-1) + " " + m.operator2(deep-1) + " " + m.function(0)
	case 2:
		return m.function(0) + " " + m.one("rank", "power", "stencil") + m.one(" 1", " (1 2)", " arg")
	case 3:
		items := m.one("", m.array(0)+" "+m.function(0)+" ", m.function(0)+" ", m.function(0)+" "+m.function(0)+" ")
		return "(" + items + m.function(deep-1) + " " + m.function(0) + ")"
	case 4:
		return m.lambda(deep, "0")
	}
	return "(" + m.function(deep-1) + ")"
}

func (m maker) operator1(deep int) string {
	if deep > 1 && m.Intn(3) == 0 {
		return m.lambda(deep, "F")
	}
	return m.named("1", m.one("/", "\\", "each", "swap", "outer", "(/)"))
}

func (m maker) operator2(deep int) string {
	if deep > 1 && m.Intn(3) == 0 {
		return m.lambda(deep, "FG")
	}
	return m.named("2", m.one("inner", "atop", "over", "(over)"))
}

func (m maker) lambda(deep int, within string) string {
	inside := maker{m.Rand, map[string][]string{}, within}
	for letter, names := range m.names {
		inside.names[letter] = slices.Clone(names)
	}
	text := inside.statements(deep-1, m.Intn(3))
	switch within {
	case "F":
		text += "F "
	case "FG":
		text += m.one("F G ", "G ")
	}
	return "{" + text + inside.array(deep-1) + m.one("", ";") + "}"
}

// statements returns count statements, each with a break behind it.
func (m maker) statements(deep, count int) string {
	text := ""
	for range count {
		name, node, letter := m.one("a", "b", "c2", "long")+strconv.Itoa(m.Intn(90)), "", m.one("a", "f", "1", "2", "expr", "expr", "guard")
		switch {
		case letter == "a":
			node = m.array(deep)
		case letter == "f":
			node = m.function(deep)
		case letter == "1":
			node = m.lambda(deep, "F")
		case letter == "2":
			node = m.lambda(deep, "FG")
		case letter == "guard" && m.within != "":
			text += m.array(deep-1) + ":" + m.array(deep-1) + m.one(";", "\n", ";;", " ;\n")
			continue
		default:
			text += m.array(deep) + m.one(";", "\n", ";;", "\n\n")
			continue
		}
		text += name + " <- " + node + m.one(";", "\n", " # a comment\n")
		m.names[letter] = append(m.names[letter], name)
	}
	return text
}

// programs calls send with count random programs.
func programs(count int, send func(s string)) {
	random := rand.New(rand.NewSource(12))
	for i := range count {
		m := maker{random, map[string][]string{}, ""}
		send(m.statements(1+i%5, 1+random.Intn(4)))
	}
}

// texts are texts of all kinds, with and without faults.
func texts() []string {
	list := []string{
		"", " ", "\n;\n", "# nothing", "1 2 + iota 3", "+/ % tally", "x <- 1; x <- 2", "1 /", "{Y", "{a <- Y}", `"ab" , 'c' "" '\n'`, "avg <- +/ % tally ; avg {Y * 2 ; Y + 1} 3 4",
		"twice <- {F F Y}; - twice 3", "{Y < 2 : 1; Y * self Y - 1} 5", "both <- {(F Y) , G Y}; - both (1 + |) arg", "f <- {g <- {h <- {X + Y}; 1 h Y}; g Y}; f 3", "(1 (2 3) 4) + rank 0 (5 6)",
		"1 - 2 3 * + 4", "(1 - * + | %) 2", "X", "{G F Y}", "a", ")", "(", "1 : 2", "{1 : 2}", "{1 : 2; 3} 4", "<-", "a <-", "12a", "'", "\"", "\\", "é", "\xff", "a <- \"\xff\"", "_", "X Y F G self arg",
	}
	programs(300, func(s string) { list = append(list, s) })
	return list
}

// results returns the results of both calls for s as text.
func results(s string) string {
	p, f := Parse(s)
	n, g := Expression(s)
	return fmt.Sprintf("%s %+v %s %+v", bodyTree(p.Body), f, tree(n), g)
}

// A call that kept something of an earlier one would return something else after other calls.
func TestP1201Pure(t *testing.T) {
	list := texts()
	var first []string
	for _, s := range list {
		first = append(first, results(s))
	}
	for i := len(list) - 1; i >= 0; i-- {
		if again := results(list[i]); again != first[i] {
			t.Errorf("the calls for %s return %s, then %s", shown(list[i]), shown(first[i]), shown(again))
		}
	}
}

// memory is the extent of a slice in memory, with its capacity.
type memory struct{ from, to uintptr }

// memories returns the extents of all slices in v.
func memories(v reflect.Value) []memory {
	var list []memory
	switch v.Kind() {
	case reflect.Struct:
		for i := range v.NumField() {
			list = append(list, memories(v.Field(i))...)
		}
	case reflect.Slice:
		if v.Cap() > 0 {
			list = append(list, memory{v.Pointer(), v.Pointer() + uintptr(v.Cap())*v.Type().Elem().Size()})
		}
		for i := range v.Len() {
			list = append(list, memories(v.Index(i))...)
		}
	}
	return list
}

// No two slices of the results share memory, also not behind their lengths.
func TestP1201OwnMemory(t *testing.T) {
	total := 0
	for _, s := range texts() {
		p, _ := Parse(s)
		n, _ := Expression(s)
		again, _ := Parse(s)
		list := memories(reflect.ValueOf(p))
		list = append(list, memories(reflect.ValueOf(n))...)
		list = append(list, memories(reflect.ValueOf(again))...)
		slices.SortFunc(list, func(a, b memory) int { return int(a.from) - int(b.from) })
		for i := range len(list) - 1 {
			if list[i].to > list[i+1].from {
				t.Errorf("two slices in the results for %s share memory", shown(s))
			}
		}
		total += len(list)
		runtime.KeepAlive([]any{p, n, again}) // Memory that is free may be used twice.
	}
	if total < 10000 {
		t.Errorf("only %d slices were compared", total)
	}
}

// Every call must return for all arguments, with nothing but the fault if there is one; a panic fails the test.
func TestP1201AllArguments(t *testing.T) {
	random := rand.New(rand.NewSource(1))
	list := []string{
		strings.Repeat("\xff", api.MaxText), strings.Repeat("(", api.MaxText), strings.Repeat("{", api.MaxText), strings.Repeat("\n", api.MaxToks), strings.Repeat("(", api.MaxToks), strings.Repeat("{", api.MaxToks), strings.Repeat(")", api.MaxToks),
		strings.Repeat("+", api.MaxToks), strings.Repeat("/", api.MaxToks), strings.Repeat("-", api.MaxToks-1) + "1", "+" + strings.Repeat("/", api.MaxToks-1), strings.Repeat("1 ", api.MaxToks), strings.Repeat("1;", api.MaxToks/2), strings.Repeat("1+", api.MaxToks/2),
		"+" + strings.Repeat(" inner +", api.MaxToks/2-1), strings.Repeat(" ", api.MaxText), `"` + strings.Repeat("a", api.MaxText-2) + `"`, strings.Repeat("a<-", api.MaxToks/2), strings.Repeat("{}", api.MaxToks/2), strings.Repeat("()", api.MaxToks/2),
	}
	for b := range 256 {
		list = append(list, string([]byte{byte(b)}), "1 "+string([]byte{byte(b)}), "{"+string([]byte{byte(b)})+"}")
	}
	for range 20000 {
		bytes := make([]byte, random.Intn(12))
		for i := range bytes {
			bytes[i] = `+-/\(){}:<;12aXYFG"'_ #`[random.Intn(23)]
		}
		list = append(list, string(bytes))
	}
	for _, s := range list {
		p, f := Parse(s)
		n, g := Expression(s)
		if !isZero(f) && len(p.Body) != 0 || !isZero(g) && !reflect.ValueOf(n).IsZero() || isZero(g) && reflect.ValueOf(n).IsZero() {
			t.Errorf("Parse(%s) = %s, %+v, Expression = %s, %+v", shown(s), shown(bodyTree(p.Body)), f, shown(tree(n)), g)
		}
		for _, fault := range []api.Fault{f, g} {
			hasName := fault.Kind == api.ErrNotFound || fault.Kind == api.ErrDuplicate
			if len(fault.Left)+len(fault.Right) != 0 || hasName != (fault.Name != "") || fault.At < 0 || fault.At > len(s) {
				t.Errorf("the fault for %s is %+v", shown(s), fault)
			}
		}
	}
}

// The longest texts take little time, whatever they nest.
func TestP1201Time(t *testing.T) {
	lines := strings.Repeat("1 + 2 3 4 5 6 7 8 9 1 2 3;", 1000)
	nested := strings.Repeat("{", 60) + strings.Repeat("1+", 8000) + "1" + strings.Repeat("}1", 60)
	start := time.Now()
	for _, s := range []string{lines, nested, strings.Repeat("-", api.MaxToks-1) + "1", strings.Repeat("+", api.MaxToks), "+" + strings.Repeat("/", api.MaxToks-1), strings.Repeat("(1)", api.MaxToks/3)} {
		Parse(s)
		Expression(s)
	}
	if took := time.Since(start); took > 20*time.Second {
		t.Errorf("the calls take %v", took)
	}
}

// The package uses only the layers that the document lists for it.
func TestP1201Imports(t *testing.T) {
	file, err := goparser.ParseFile(gotoken.NewFileSet(), "parser.go", nil, goparser.ImportsOnly)
	if err != nil {
		t.Fatal(err)
	}
	for _, spec := range file.Imports {
		path := strings.Trim(spec.Path.Value, `"`)
		if strings.HasPrefix(path, "arraylang/") && !slices.Contains([]string{"arraylang/api", "arraylang/token", "arraylang/literal", "arraylang/syntax", "arraylang/names"}, path) {
			t.Errorf("the package imports %s", path)
		}
	}
}

func TestExamples(t *testing.T) {
	checkProgram(t, "1 2 + iota 3", "expr@0 dyad@4(+@4 strand@0(1@0 2@2) monad@6(iota@6 3@11))")
	checkNode(t, "1 2 + iota 3", "dyad@4(+@4 strand@0(1@0 2@2) monad@6(iota@6 3@11))")
	checkNode(t, "+/ % tally", "train@1(derive1@1(/@1 +@0) %@3 tally@5)")
	checkFault(t, "x <- 1; x <- 2", api.ErrDuplicate, 8, "x")
	checkFault(t, "1 /", api.ErrClass, 2, "")
	checkNodeFault(t, "1 /", api.ErrClass, 2, "")
	checkFault(t, "{Y", api.ErrEnd, 2, "")
	checkNodeFault(t, "{Y", api.ErrEnd, 2, "")
	checkFault(t, "{a <- Y}", api.ErrResult, 0, "")
	checkNodeFault(t, "{a <- Y}", api.ErrResult, 0, "")
}

// The examples of DOC.md are programs.
func TestDocumentExamples(t *testing.T) {
	for s, want := range map[string]string{
		"2 * 3 + iota 4":                "expr@0 dyad@2(*@2 2@0 dyad@6(+@6 3@4 monad@8(iota@8 4@13)))",
		"+/ iota 5":                     "expr@0 monad@1(derive1@1(/@1 +@0) monad@3(iota@3 5@8))",
		"1 2 3 + 2 3 reshape 10":        "expr@0 dyad@6(+@6 strand@0(1@0 2@2 3@4) dyad@12(reshape@12 strand@8(2@8 3@10) 10@20))",
		"(+/ % tally) 1 2 3 4":          "expr@0 monad@2(train@2(derive1@2(/@2 +@1) %@4 tally@6) strand@13(1@13 2@15 3@17 4@19))",
		"3 {X * Y} 4":                   "expr@0 dyad@2(lambda:f@2{expr@3 dyad@5(*@5 X@3 Y@7)} 3@0 4@10)",
		"{Y < 2 : 1; Y * self Y - 1} 5": "expr@0 monad@0(lambda:f@0{dyad@3(<@3 Y@1 2@5):guard@7 1@9; expr@12 dyad@14(*@14 Y@12 monad@16(self@16 dyad@23(-@23 Y@21 1@25)))} 5@28)",
		"avg <- +/ % tally; avg 1 2 6":  "avg@0 train@8(derive1@8(/@8 +@7) %@10 tally@12); expr@19 monad@19(avg:f@19 strand@23(1@23 2@25 6@27))",
		"twice <- {F F Y}; - twice 3":   "twice@0 lambda:1@9{expr@10 monad@10(F@10 monad@12(F@12 Y@14))}; expr@18 monad@20(derive1@20(twice:1@20 -@18) 3@26)",
		"1 2 * outer 1 2 3":             "expr@0 dyad@6(derive1@6(outer@6 *@4) strand@0(1@0 2@2) strand@12(1@12 2@14 3@16))",
		"1 % 0":                         "expr@0 dyad@2(%@2 1@0 0@4)",
	} {
		checkProgram(t, s, want)
	}
	checkFault(t, "1 2 outer * 1 2 3", api.ErrClass, 4, "")
}

func TestP1202NoStatements(t *testing.T) {
	for _, s := range []string{"", " ", ";", "\n", "\n;\n ; # a comment\n\t", "# a comment", "\r\n"} {
		checkProgram(t, s, "")
	}
}

func TestP1202Literals(t *testing.T) {
	for s, want := range map[string]string{
		"0": "0@0", "_0": "0@0", " 7": "7@1", "_12": "-12@0", "0012": "12@0", "4611686018427387903": "4611686018427387903@0", "_4611686018427387903": "-4611686018427387903@0",
		"'a'": "'a'@0", "' '": "' '@0", `'\''`: `'\''@0`, `'"'`: `'"'@0`, `'\u{0}'`: `'\x00'@0`, `'\u{10ffff}'`: `'\U0010ffff'@0`, "'é'": "'é'@0", " 'a'": "'a'@1",
		`""`: `""@0`, `"a"`: `"a"@0`, `"ab"`: `"ab"@0`, `"é€😀"`: `"é€😀"@0`, `"a\n\t\r\\\'\"\u{41}"`: `"a\n\t\r\\'\"A"@0`, `"'#;(X"`: `"'#;(X"@0`, `"("`: `"("@0`, `":"`: `":"@0`, `"<-"`: `"<-"@0`,
		"arg": "arg@0",
	} {
		checkNode(t, s, want)
		checkProgram(t, s, "expr@"+want[strings.LastIndex(want, "@")+1:]+" "+want)
	}
	n, f := Expression(`""`)
	if n.Value.Kind != api.Char || len(n.Value.Shape) != 1 || n.Value.Shape[0] != 0 || len(n.Value.Nums) != 0 || f.Kind != api.OK {
		t.Errorf("Expression of an empty string = %+v, %+v", n, f)
	}
}

// A string that contains the text of a symbol is not this symbol, wherever it stands.
func TestP1202StringsLikeSymbols(t *testing.T) {
	for _, text := range []string{"(", ")", "{", "}", ":", "<-", ";", "+", "/", "X", "self", "arg", "a"} {
		quoted := strconv.Quote(text)
		want := quoted + "@0"
		checkNode(t, quoted, want)
		checkProgram(t, quoted+";"+quoted, "expr@0 "+want+"; expr@"+strconv.Itoa(len(quoted)+1)+" "+moved(want, len(quoted)+1))
		checkProgram(t, "a<-0;a"+quoted, "a@0 0@3; expr@5 strand@5(a:a@5 "+moved(want, 6)+")")
		checkInLambda(t, "f", quoted, "expr@1 "+moved(want, 1))
		checkInLambda(t, "f", "0"+quoted, "expr@1 strand@1(0@1 "+moved(want, 2)+")")
		checkNode(t, "("+quoted+")", moved(want, 1))
		checkNode(t, "(0"+quoted+")", "strand@1(0@1 "+moved(want, 2)+")")
	}
}

func TestP1202Primitives(t *testing.T) {
	if len(prims) != 55 || len(ops) != 11 {
		t.Fatalf("there are %d primitive functions and %d operators", len(prims), len(ops))
	}
	for text := range prims {
		checkNode(t, text, text+"@0")
		checkNode(t, " "+text+" 1 2", "monad@1("+text+"@1 strand@"+strconv.Itoa(len(text)+2)+"(1@"+strconv.Itoa(len(text)+2)+" 2@"+strconv.Itoa(len(text)+4)+"))")
		checkFault(t, "  "+text, api.ErrClass, 2, "")
	}
	for text, op := range ops {
		checkNode(t, text, text+"@0")
		checkNode(t, "  ( "+text+" )", text+"@4")
		checkFault(t, "  "+text, api.ErrClass, 2, "")
		checkFault(t, "x <- "+text, api.ErrClass, 5, "")
		end := strconv.Itoa(len(text) + 3)
		switch derived := "derive2@2(" + text + "@2 +@0 "; opLetters[op] {
		case "1":
			checkNode(t, "+ "+text, "derive1@2("+text+"@2 +@0)")
			checkNode(t, "+ "+text+" 1", "monad@2(derive1@2("+text+"@2 +@0) 1@"+end+")")
			checkNode(t, "+ "+text+" -", "train@2(derive1@2("+text+"@2 +@0) -@"+end+")")
		case "2":
			checkNode(t, "+ "+text+" -", derived+"-@"+end+")")
			checkNodeFault(t, "+ "+text+" 1", api.ErrClass, len(text)+3, "")
			checkNodeFault(t, "+ "+text, api.ErrClass, 2, "")
		case "3":
			checkNode(t, "+ "+text+" 1", derived+"1@"+end+")")
			checkNodeFault(t, "+ "+text+" -", api.ErrClass, len(text)+3, "")
			checkNodeFault(t, "+ "+text, api.ErrClass, 2, "")
		}
		checkNodeFault(t, text+" 1", api.ErrClass, 0, "")
		checkNodeFault(t, "1 "+text, api.ErrClass, 2, "")
	}
}

// checkInLambda checks the node of a lambda that has only this statement.
func checkInLambda(t *testing.T, class, s, want string) {
	t.Helper()
	checkNode(t, "{"+s+"}", "lambda:"+class+"@0{"+want+"}")
}

func TestP1202InLambdas(t *testing.T) {
	checkInLambda(t, "f", "X", "expr@1 X@1")
	checkInLambda(t, "f", "Y", "expr@1 Y@1")
	checkInLambda(t, "f", "self 1", "expr@1 monad@1(self@1 1@6)")
	checkInLambda(t, "1", "F 1", "expr@1 monad@1(F@1 1@3)")
	checkInLambda(t, "2", "G 1", "expr@1 monad@1(G@1 1@3)")
	checkInLambda(t, "f", "(X)", "expr@1 X@2")
	checkInLambda(t, "f", "X Y", "expr@1 strand@1(X@1 Y@3)")
	checkInLambda(t, "f", "X self Y", "expr@1 dyad@3(self@3 X@1 Y@8)")
}

func TestP1202LambdaClasses(t *testing.T) {
	for s, want := range map[string]api.Class{
		"{1}": api.FunClass, "{X self Y}": api.FunClass, "{F 1}": api.Op1Class, "{G 1}": api.Op2Class, "{F G 1}": api.Op2Class, "{G F 1}": api.Op2Class, "{F F 1}": api.Op1Class,
		"{F 1; 2}": api.Op1Class, "{G 1; F 2}": api.Op2Class, "{F 1; G 2}": api.Op2Class, "{a <- F; 2}": api.Op1Class, "{a <- G; F 2}": api.Op2Class, "{F 1 : 2; 3}": api.Op1Class, "{1 : G 2; 3}": api.Op2Class,
		"{(F) 1}": api.Op1Class, "{((+ G)) 1}": api.Op2Class, "{{F Y} 1; 2} ": 0, "{+ {F Y} 1}": api.FunClass, "{+ {F G Y} - 1}": api.FunClass, "{F {F G Y} - 1}": api.Op1Class, "{F {F Y} G 1}": api.Op2Class, "{F {F G Y} G 1}": api.Op2Class,
		"{a <- {F Y}; 1}": api.FunClass, "{a <- {G Y}; F 1}": api.Op1Class, "{{+ {G F Y} - Y} Y}": api.FunClass, "{a <- {b <- {G Y}; F Y}; 1}": api.FunClass, "{a <- {b <- {G Y}; F Y}; G 1}": api.Op2Class,
		"{F each 1}": api.Op1Class, "{+ inner F 1}": api.Op1Class, "{+ over G 1}": api.Op2Class, "{(1 + F) 2}": api.Op1Class, "{G 1; {Y} 2}": api.Op2Class, "{{Y} 2; G 1}": api.Op2Class, "{{Y} 2; F 1}": api.Op1Class,
	} {
		n, f := Expression(s)
		if want == 0 {
			if f.Kind != api.ErrClass {
				t.Errorf("Expression(%s) = %s, %+v", s, tree(n), f)
			}
			continue
		}
		if n.Kind != api.NLambda || n.Class != want || f.Kind != api.OK {
			t.Errorf("Expression(%s) = %s, %+v; want a lambda of class %d", s, tree(n), f, want)
		}
	}
}

func TestP1202Names(t *testing.T) {
	for s, want := range map[string]string{
		"a <- 1; a":                           "a@0 1@5; expr@8 a:a@8",
		"f <- +; f 1":                         "f@0 +@5; expr@8 monad@8(f:f@8 1@10)",
		"o <- {F 1}; + o 1":                   "o@0 lambda:1@5{expr@6 monad@6(F@6 1@8)}; expr@12 monad@14(derive1@14(o:1@14 +@12) 1@16)",
		"p <- {G 1}; + p - 1":                 "p@0 lambda:2@5{expr@6 monad@6(G@6 1@8)}; expr@12 monad@14(derive2@14(p:2@14 +@12 -@16) 1@18)",
		"a <- 1; {a} 2":                       "a@0 1@5; expr@8 monad@8(lambda:f@8{expr@9 a:a@9} 2@12)",
		"a <- 1; {a <- -; a Y} 2":             "a@0 1@5; expr@8 monad@8(lambda:f@8{a@9 -@14; expr@17 monad@17(a:f@17 Y@19)} 2@22)",
		"a <- 1; {a 3; a <- -; a Y} 2":        "a@0 1@5; expr@8 monad@8(lambda:f@8{expr@9 strand@9(a:a@9 3@11); a@14 -@19; expr@22 monad@22(a:f@22 Y@24)} 2@27)",
		"a <- 1; {a <- - a; a} 2; a 4":        "a@0 1@5; expr@8 monad@8(lambda:f@8{a@9 monad@14(-@14 a:a@16); expr@19 a:a@19} 2@22); expr@25 strand@25(a:a@25 4@27)",
		"a <- {a <- -; a Y}; a 2":             "a@0 lambda:f@5{a@6 -@11; expr@14 monad@14(a:f@14 Y@16)}; expr@20 monad@20(a:f@20 2@22)",
		"a <- 1; {{{a}1}1}1":                  "a@0 1@5; expr@8 monad@8(lambda:f@8{expr@9 monad@9(lambda:f@9{expr@10 monad@10(lambda:f@10{expr@11 a:a@11} 1@13)} 1@15)} 1@17)",
		"a <- 1; b <- a; b":                   "a@0 1@5; b@8 a:a@13; expr@16 b:a@16",
		"f <- +; g <- f; 1 g 2":               "f@0 +@5; g@8 f:f@13; expr@16 dyad@18(g:f@18 1@16 2@20)",
		"o <- ({F 1}); + o 1":                 "o@0 lambda:1@6{expr@7 monad@7(F@7 1@9)}; expr@14 monad@16(derive1@16(o:1@16 +@14) 1@18)",
		"{a <- 1; a} 1; {a <- -; a 1}2":       "expr@0 monad@0(lambda:f@0{a@1 1@6; expr@9 a:a@9} 1@12); expr@15 monad@15(lambda:f@15{a@16 -@21; expr@24 monad@24(a:f@24 1@26)} 2@28)",
		"x <- 1; y2 <- x":                     "x@0 1@5; y2@8 x:a@14",
		"abcdefghijklmnopqrstuvwxyz012345<-1": "abcdefghijklmnopqrstuvwxyz012345@0 1@34",
	} {
		checkProgram(t, s, want)
	}
	checkFault(t, "a\n<-1", api.ErrNotFound, 0, "a")
}

func TestP1202Operators(t *testing.T) {
	for s, want := range map[string]string{
		"+ / /":              "derive1@4(/@4 derive1@2(/@2 +@0))",
		"+ / each \\":        "derive1@9(\\@9 derive1@4(each@4 derive1@2(/@2 +@0)))",
		"+ inner * /":        "derive1@10(/@10 derive2@2(inner@2 +@0 *@8))",
		"+ / inner *":        "derive2@4(inner@4 derive1@2(/@2 +@0) *@10)",
		"+ inner * over -":   "derive2@10(over@10 derive2@2(inner@2 +@0 *@8) -@15)",
		"+ rank 1 2":         "monad@2(derive2@2(rank@2 +@0 1@7) 2@9)",
		"+ rank 1 2 3":       "monad@2(derive2@2(rank@2 +@0 1@7) strand@9(2@9 3@11))",
		"+ rank (1 2) 3":     "monad@2(derive2@2(rank@2 +@0 strand@8(1@8 2@10)) 3@13)",
		"+ rank 1 /":         "derive1@9(/@9 derive2@2(rank@2 +@0 1@7))",
		"1 + rank 1 2":       "dyad@4(derive2@4(rank@4 +@2 1@9) 1@0 2@11)",
		"1 2 + / 3":          "dyad@6(derive1@6(/@6 +@4) strand@0(1@0 2@2) 3@8)",
		"+ power 2 - / 3":    "monad@2(derive2@2(power@2 +@0 2@8) monad@12(derive1@12(/@12 -@10) 3@14))",
		"+ (/) 1":            "monad@3(derive1@3(/@3 +@0) 1@6)",
		"(+ /) 1":            "monad@3(derive1@3(/@3 +@1) 1@6)",
		"(+ -) / 1":          "monad@6(derive1@6(/@6 train@1(+@1 -@3)) 1@8)",
		"+ atop (- *) 1":     "monad@2(derive2@2(atop@2 +@0 train@8(-@8 *@10)) 1@13)",
		"{Y} / 1":            "monad@4(derive1@4(/@4 lambda:f@0{expr@1 Y@1}) 1@6)",
		"+ {F Y} 1":          "monad@2(derive1@2(lambda:1@2{expr@3 monad@3(F@3 Y@5)} +@0) 1@8)",
		"+ {G Y} - 1":        "monad@2(derive2@2(lambda:2@2{expr@3 monad@3(G@3 Y@5)} +@0 -@8) 1@10)",
		"+ inner {Y} 1":      "monad@2(derive2@2(inner@2 +@0 lambda:f@8{expr@9 Y@9}) 1@12)",
		"+ / - \\ 1":         "monad@2(derive1@2(/@2 +@0) monad@6(derive1@6(\\@6 -@4) 1@8))",
		"+ power (- 1) 2":    "monad@2(derive2@2(power@2 +@0 monad@9(-@9 1@11)) 2@14)",
		"+ stencil \"ab\" 2": "monad@2(derive2@2(stencil@2 +@0 \"ab\"@10) 2@15)",
		"(1 + -) / 2":        "monad@8(derive1@8(/@8 train@1(1@1 +@3 -@5)) 2@10)",
		"{F Y}":              "lambda:1@0{expr@1 monad@1(F@1 Y@3)}",
		"(({F Y}))":          "lambda:1@2{expr@3 monad@3(F@3 Y@5)}",
	} {
		checkNode(t, s, want)
	}
}

func TestP1202Strands(t *testing.T) {
	for s, want := range map[string]string{
		"1 2":              "strand@0(1@0 2@2)",
		" 1 'a' \"b\" arg": "strand@1(1@1 'a'@3 \"b\"@7 arg@11)",
		"1":                "1@0",
		"(1)":              "1@1",
		"(1) (2)":          "strand@1(1@1 2@5)",
		"(1 2) 3":          "strand@1(strand@1(1@1 2@3) 3@6)",
		"1 (2 3)":          "strand@0(1@0 strand@3(2@3 3@5))",
		"(1 + 2) 3":        "strand@3(dyad@3(+@3 1@1 2@5) 3@8)",
		"1 2 + 3 4 - 5 6":  "dyad@4(+@4 strand@0(1@0 2@2) dyad@10(-@10 strand@6(3@6 4@8) strand@12(5@12 6@14)))",
		"((1 2))":          "strand@2(1@2 2@4)",
		"1 2 3 4":          "strand@0(1@0 2@2 3@4 4@6)",
	} {
		checkNode(t, s, want)
	}
}

func TestP1202Applications(t *testing.T) {
	for s, want := range map[string]string{
		"- 1":           "monad@0(-@0 1@2)",
		"1 - 2":         "dyad@2(-@2 1@0 2@4)",
		"- - 1":         "monad@0(-@0 monad@2(-@2 1@4))",
		"1 - - 2":       "dyad@2(-@2 1@0 monad@4(-@4 2@6))",
		"- 1 - 2":       "monad@0(-@0 dyad@4(-@4 1@2 2@6))",
		"1 - 2 + 3":     "dyad@2(-@2 1@0 dyad@6(+@6 2@4 3@8))",
		"(1 - 2) + 3":   "dyad@8(+@8 dyad@3(-@3 1@1 2@5) 3@10)",
		"1 (+ -) 2":     "dyad@3(train@3(+@3 -@5) 1@0 2@8)",
		"1 (+) 2":       "dyad@3(+@3 1@0 2@6)",
		"- (1 + 2)":     "monad@0(-@0 dyad@5(+@5 1@3 2@7))",
		"1 {X} 2":       "dyad@2(lambda:f@2{expr@3 X@3} 1@0 2@6)",
		"1 + - 2 * 3 4": "dyad@2(+@2 1@0 monad@4(-@4 dyad@8(*@8 2@6 strand@10(3@10 4@12))))",
		"- + * % 1":     "monad@0(-@0 monad@2(+@2 monad@4(*@4 monad@6(%@6 1@8))))",
		"1 - 2 - 3 - 4": "dyad@2(-@2 1@0 dyad@6(-@6 2@4 dyad@10(-@10 3@8 4@12)))",
		"(- 1) (- 2)":   "strand@1(monad@1(-@1 1@3) monad@7(-@7 2@9))",
		"(- 1) + (- 2)": "dyad@6(+@6 monad@1(-@1 1@3) monad@9(-@9 2@11))",
	} {
		checkNode(t, s, want)
		checkProgram(t, " "+s, "expr@1 "+moved(want, 1))
	}
}

// moved returns a tree whose offsets are greater by a number.
func moved(tree string, by int) string {
	return regexp.MustCompile(`@\d+`).ReplaceAllStringFunc(tree, func(s string) string {
		at, _ := strconv.Atoi(s[1:])
		return "@" + strconv.Itoa(at+by)
	})
}

func TestP1202Trains(t *testing.T) {
	for s, want := range map[string]string{
		"+":               "+@0",
		"+ -":             "train@0(+@0 -@2)",
		"+ - *":           "train@0(+@0 -@2 *@4)",
		"+ - * %":         "train@0(+@0 train@2(-@2 *@4 %@6))",
		"+ - * % |":       "train@0(+@0 -@2 train@4(*@4 %@6 |@8))",
		"+ - * % | ^":     "train@0(+@0 train@2(-@2 *@4 train@6(%@6 |@8 ^@10)))",
		"+ - * % | ^ ,":   "train@0(+@0 -@2 train@4(*@4 %@6 train@8(|@8 ^@10 ,@12)))",
		"1 + -":           "train@0(1@0 +@2 -@4)",
		"1 2 + -":         "train@0(strand@0(1@0 2@2) +@4 -@6)",
		"+ 1 - *":         "train@0(+@0 train@2(1@2 -@4 *@6))",
		"1 + 2 - *":       "train@0(1@0 +@2 train@4(2@4 -@6 *@8))",
		"+ - 1 * %":       "train@0(+@0 -@2 train@4(1@4 *@6 %@8))",
		"1 + - * %":       "train@0(1@0 +@2 train@4(-@4 *@6 %@8))",
		"+ 1 - 2 * %":     "train@0(+@0 train@2(1@2 -@4 train@6(2@6 *@8 %@10)))",
		"(+ -) *":         "train@1(train@1(+@1 -@3) *@6)",
		"+ (- *)":         "train@0(+@0 train@3(-@3 *@5))",
		"(+ - *)":         "train@1(+@1 -@3 *@5)",
		"+ / -":           "train@2(derive1@2(/@2 +@0) -@4)",
		"(1 + 2) - *":     "train@3(dyad@3(+@3 1@1 2@5) -@8 *@10)",
		"+ {Y}":           "train@0(+@0 lambda:f@2{expr@3 Y@3})",
		"+ rank 0 -":      "train@2(derive2@2(rank@2 +@0 0@7) -@9)",
		"((+ -) (* %)) |": "train@2(train@2(train@2(+@2 -@4) train@8(*@8 %@10)) |@14)",
	} {
		checkNode(t, s, want)
		checkProgram(t, "f <- "+s, "f@0 "+moved(want, 5))
	}
}

func TestP1202Statements(t *testing.T) {
	for s, want := range map[string]string{
		"1;2":                     "expr@0 1@0; expr@2 2@2",
		"1\n2":                    "expr@0 1@0; expr@2 2@2",
		";;1;;\n;2;\n":            "expr@2 1@2; expr@7 2@7",
		"(1)":                     "expr@0 1@1",
		"((1 + 2))":               "expr@0 dyad@4(+@4 1@2 2@6)",
		" 1 # 2\n# 3\n 4":         "expr@1 1@1; expr@12 4@12",
		"a<-1":                    "a@0 1@3",
		" a <- (+)":               "a@1 +@7",
		"f<-{1}":                  "f@0 lambda:f@3{expr@4 1@4}",
		"f<-({F 1})":              "f@0 lambda:1@4{expr@5 monad@5(F@5 1@7)}",
		"f<-((+ /))":              "f@0 derive1@7(/@7 +@5)",
		"{1} 2":                   "expr@0 monad@0(lambda:f@0{expr@1 1@1} 2@4)",
		"{;1;;2;} 3":              "expr@0 monad@0(lambda:f@0{expr@2 1@2; expr@5 2@5} 3@9)",
		"{\n1\n2\n} 3":            "expr@0 monad@0(lambda:f@0{expr@2 1@2; expr@4 2@4} 3@8)",
		"{1:2;3} 4":               "expr@0 monad@0(lambda:f@0{1@1:guard@2 2@3; expr@5 3@5} 4@8)",
		"{(1):(2);3} 4":           "expr@0 monad@0(lambda:f@0{1@2:guard@4 2@6; expr@9 3@9} 4@12)",
		"{1:2;3:4;5} 6":           "expr@0 monad@0(lambda:f@0{1@1:guard@2 2@3; 3@5:guard@6 4@7; expr@9 5@9} 6@12)",
		"{Y = 1 2 : X - 3\nY} 4":  "expr@0 monad@0(lambda:f@0{dyad@3(=@3 Y@1 strand@5(1@5 2@7)):guard@9 dyad@13(-@13 X@11 3@15); expr@17 Y@17} 4@20)",
		"{a<-1;a:a;a} 4":          "expr@0 monad@0(lambda:f@0{a@1 1@4; a:a@6:guard@7 a:a@8; expr@10 a:a@10} 4@13)",
		"{{1:2;3}1 : 4; 5} 6":     "expr@0 monad@0(lambda:f@0{monad@1(lambda:f@1{1@2:guard@3 2@4; expr@6 3@6} 1@8):guard@10 4@12; expr@15 5@15} 6@18)",
		"a<-1;{a<-2;a}3;b<-a":     "a@0 1@3; expr@5 monad@5(lambda:f@5{a@6 2@9; expr@11 a:a@11} 3@13); b@15 a:a@18",
		"a<-{b<-{c<-1;c}2;b};a 3": "a@0 lambda:f@3{b@4 monad@7(lambda:f@7{c@8 1@11; expr@13 c:a@13} 2@15); expr@17 b:a@17}; expr@20 monad@20(a:f@20 3@22)",
	} {
		checkProgram(t, s, want)
	}
}

func TestP1202ScanFaults(t *testing.T) {
	checkFaults(t, []fault{
		{"12a", api.ErrNumber, 0, ""}, {"1 _", api.ErrNumber, 2, ""}, {") ? 'ab'", api.ErrToken, 2, ""}, {"x 'ab'", api.ErrChar, 2, ""}, {"X ; \"ab", api.ErrString, 4, ""}, {"( Ab", api.ErrToken, 2, ""},
		{") " + strings.Repeat("a", api.MaxName+1), api.ErrName, 2, ""}, {")" + strings.Repeat(" ", api.MaxText), api.ErrLong, 0, ""}, {") \"\xff\"", api.ErrChar, 3, ""}, {strings.Repeat(")", api.MaxToks+1), api.ErrLimit, api.MaxToks, ""},
		{strings.Repeat(" ", api.MaxText-1) + ")", api.ErrToken, api.MaxText - 1, ""}, {strings.Repeat("1;", 1001) + "'", api.ErrString, 2002, ""}, {strings.Repeat("(", 61) + "@", api.ErrToken, 61, ""},
	})
	checkProgram(t, strings.Repeat(" ", api.MaxText-1)+"1", "expr@65535 1@65535")
	checkProgram(t, strings.Repeat(";", api.MaxToks), "")
}

func TestP1202ErrNotFound(t *testing.T) {
	checkFaults(t, []fault{
		{"a", api.ErrNotFound, 0, "a"}, {" z9 ", api.ErrNotFound, 1, "z9"}, {"1 + a", api.ErrNotFound, 4, "a"}, {"a + b", api.ErrNotFound, 0, "a"}, {"(a", api.ErrNotFound, 1, "a"}, {"{a", api.ErrNotFound, 1, "a"},
		{"a <- a", api.ErrNotFound, 5, "a"}, {"a <- b <- 1", api.ErrNotFound, 5, "b"}, {"f <- {f Y}", api.ErrNotFound, 6, "f"}, {"f <- {g Y}; g <- +", api.ErrNotFound, 6, "g"}, {"(a <- 1)", api.ErrNotFound, 1, "a"},
		{"{a <- 1; a} 2; a", api.ErrNotFound, 15, "a"}, {"{a <- 1; a} a", api.ErrNotFound, 12, "a"}, {"{a <- 1; a} 1; {a} 2", api.ErrNotFound, 16, "a"}, {"{{a <- 1; a} a} 1", api.ErrNotFound, 13, "a"}, {"a : 1", api.ErrNotFound, 0, "a"},
		{"a; a <- 1", api.ErrNotFound, 0, "a"}, {"a ; <- 1", api.ErrNotFound, 0, "a"}, {"1 a <- 2", api.ErrNotFound, 2, "a"}, {"/ a", api.ErrNotFound, 2, "a"}, {"1 / a", api.ErrNotFound, 4, "a"}, {"a )", api.ErrNotFound, 0, "a"}, {"{b <- 1; a <- b} a", api.ErrResult, 0, ""},
		{"each1", api.ErrNotFound, 0, "each1"}, {"x", api.ErrNotFound, 0, "x"}, {"a <- 1; b", api.ErrNotFound, 8, "b"}, {"a <- 1; aa", api.ErrNotFound, 8, "aa"}, {"aa <- 1; a", api.ErrNotFound, 9, "a"},
	})
}

func TestP1202ErrTokenOutsideLambdas(t *testing.T) {
	for _, word := range []string{"X", "Y", "self", "F", "G"} {
		for _, before := range []string{"", " ", "(", "1 ", "1 + ", "+ ", "/ ", "1 / ", "a <- ", "1;\n", "{Y} ", "{F Y} ", "{1};{2}", "(/) ", "+ rank ", "1 (2 ", "a <- {Y}; a "} {
			want := fault{before + word, api.ErrToken, len(before), ""}
			if before == "{1};{2}" {
				want = fault{before + word, api.ErrClass, 0, ""}
			}
			checkFaults(t, []fault{want})
			want.text += " 1 )"
			checkFaults(t, []fault{want})
		}
		checkFault(t, word+" <- 1", api.ErrToken, 0, "")
		checkFault(t, "{"+word+" <- 1}", map[bool]api.Errno{true: api.ErrToken, false: api.ErrClass}[word == "X" || word == "Y"], map[bool]int{true: 3, false: 1}[word == "X" || word == "Y"], "")
	}
}

func TestP1202ErrDeepBrackets(t *testing.T) {
	open, closing := strings.Repeat("(", 60), strings.Repeat(")", 60)
	checkProgram(t, open+"1"+closing, "expr@0 1@60")
	checkFault(t, "("+open+"1"+closing+")", api.ErrDeep, 60, "")
	checkFault(t, open+" {1}", api.ErrDeep, 61, "")
	checkFault(t, open+"("+closing, api.ErrDeep, 60, "")
	checkFault(t, open+" ) (", api.ErrToken, 61, "")
	checkFault(t, strings.Repeat("{", 61), api.ErrDeep, 60, "")
	checkFault(t, strings.Repeat("{", 60), api.ErrEnd, 60, "")
	checkFault(t, strings.Repeat("{", 60)+"(1)", api.ErrDeep, 60, "")
	checkFault(t, strings.Repeat("({", 30)+"{", api.ErrDeep, 60, "")
	checkFault(t, strings.Repeat("{a<-(1;", 31), api.ErrToken, 6, "")
	checkFault(t, strings.Repeat("{a <- +(", 31), api.ErrDeep, 240, "")
	checkFault(t, strings.Repeat("{1:", 61), api.ErrDeep, 180, "")
	checkFault(t, open+"1"+closing+open+"(", api.ErrDeep, 181, "")
	// Brackets that are closed don't count, whatever they contained.
	lines := strings.Repeat("(1) {(2) (3)} (4);", 100)
	p, f := Parse(lines + open + "1" + closing)
	if len(p.Body) != 101 || f.Kind != api.OK {
		t.Errorf("Parse of many brackets has %d statements, %+v", len(p.Body), f)
	}
	checkFault(t, lines+open+"(1", api.ErrDeep, len(lines)+60, "")
	checkFault(t, lines+strings.Repeat("{", 61), api.ErrDeep, len(lines)+60, "")
	n, f := Expression(strings.Repeat("{1;", 60) + "2" + strings.Repeat("}1", 60))
	if f.Kind != api.ErrDeep || f.At != 0 || n.Kind != 0 {
		t.Errorf("Expression of 60 lambdas = %s, %+v", shown(tree(n)), f)
	}
}

func TestP1202ErrTokenAndErrEnd(t *testing.T) {
	checkFaults(t, []fault{
		{"()", api.ErrToken, 1, ""}, {"(", api.ErrEnd, 1, ""}, {"( # c", api.ErrEnd, 5, ""}, {"(;1)", api.ErrToken, 1, ""}, {"(\n1)", api.ErrToken, 1, ""}, {"(}", api.ErrToken, 1, ""}, {"(:", api.ErrToken, 1, ""}, {"(<-", api.ErrToken, 1, ""},
		{")", api.ErrToken, 0, ""}, {"}", api.ErrToken, 0, ""}, {":", api.ErrToken, 0, ""}, {"<-", api.ErrToken, 0, ""}, {"1;)", api.ErrToken, 2, ""}, {"1;}", api.ErrToken, 2, ""}, {"1;:", api.ErrToken, 2, ""}, {"1\n<-", api.ErrToken, 2, ""},
		{"a<-", api.ErrEnd, 3, ""}, {"a <- ", api.ErrEnd, 5, ""}, {"a<-;1", api.ErrToken, 3, ""}, {"a<-)", api.ErrToken, 3, ""}, {"a<-<-1", api.ErrToken, 3, ""}, {"a<-:", api.ErrToken, 3, ""}, {"{a<-}", api.ErrToken, 4, ""}, {"a<-}", api.ErrToken, 3, ""},
		{"(1", api.ErrEnd, 2, ""}, {"(1 ", api.ErrEnd, 3, ""}, {"((1)", api.ErrEnd, 4, ""}, {"(1;", api.ErrToken, 2, ""}, {"(1;2)", api.ErrToken, 2, ""}, {"(1}", api.ErrToken, 2, ""}, {"{(1}", api.ErrToken, 3, ""}, {"(1:2)", api.ErrToken, 2, ""}, {"{(1:2)}", api.ErrToken, 3, ""}, {"(1<-2)", api.ErrToken, 2, ""},
		{"{", api.ErrEnd, 1, ""}, {"{ ", api.ErrEnd, 2, ""}, {"{1", api.ErrEnd, 2, ""}, {"{1;", api.ErrEnd, 3, ""}, {"{1\n# c", api.ErrEnd, 6, ""}, {"{{1}1", api.ErrEnd, 5, ""}, {"{)", api.ErrToken, 1, ""}, {"{1)", api.ErrToken, 2, ""}, {"{1;)", api.ErrToken, 3, ""}, {"{:1}", api.ErrToken, 1, ""}, {"{<-1}", api.ErrToken, 1, ""},
		{"1)", api.ErrToken, 1, ""}, {"1}", api.ErrToken, 1, ""}, {"1 <- 2", api.ErrToken, 2, ""}, {"a<-1)", api.ErrToken, 4, ""}, {"a<-1}", api.ErrToken, 4, ""}, {"a<-1<-2", api.ErrToken, 4, ""}, {"a<-1:2", api.ErrToken, 4, ""}, {"{1<-2}", api.ErrToken, 2, ""}, {"{a<-1:2;3}", api.ErrToken, 5, ""}, {"{a<-1)", api.ErrToken, 5, ""},
		{"1:2", api.ErrToken, 1, ""}, {"1 : 2; 3", api.ErrToken, 2, ""}, {"+ : 2", api.ErrToken, 2, ""}, {"/ : 2", api.ErrToken, 2, ""}, {"{1} 2 : 3", api.ErrToken, 6, ""}, {"{1} : 3", api.ErrToken, 4, ""}, {"1 :", api.ErrToken, 2, ""}, {"1;\n2 : 3", api.ErrToken, 5, ""},
		{"{1:", api.ErrEnd, 3, ""}, {"{1:}", api.ErrToken, 3, ""}, {"{1:;2}", api.ErrToken, 3, ""}, {"{1:)", api.ErrToken, 3, ""}, {"{1:2", api.ErrEnd, 4, ""}, {"{1:2:3}", api.ErrToken, 4, ""}, {"{1:2)", api.ErrToken, 4, ""}, {"{1:2<-3}", api.ErrToken, 4, ""}, {"{1::2}", api.ErrToken, 3, ""}, {"{1:a<-2}", api.ErrNotFound, 3, "a"},
		{"(1 2", api.ErrEnd, 4, ""}, {"+ (", api.ErrEnd, 3, ""}, {"+ ()", api.ErrToken, 3, ""}, {"1 2 )", api.ErrToken, 4, ""}, {"(1))", api.ErrToken, 3, ""}, {"{1}2}", api.ErrToken, 4, ""}, {"{1}}", api.ErrClass, 0, ""}, {"a <- {1}}", api.ErrToken, 8, ""},
	})
}

func TestP1202ErrClassItems(t *testing.T) {
	checkFaults(t, []fault{
		// By step 1.
		{"/ 1", api.ErrClass, 0, ""}, {"1 / 2", api.ErrClass, 2, ""}, {"1 2 / 3", api.ErrClass, 4, ""}, {"/ /", api.ErrClass, 0, ""}, {"/ + 1", api.ErrClass, 0, ""}, {"inner + 1", api.ErrClass, 0, ""}, {"1 inner + 2", api.ErrClass, 2, ""},
		{"+ inner", api.ErrClass, 2, ""}, {"1 + rank", api.ErrClass, 4, ""}, {"(+ power) 1", api.ErrClass, 3, ""}, {"+ / atop", api.ErrClass, 4, ""}, {"+ inner 1", api.ErrClass, 8, ""}, {"+ inner / 1", api.ErrClass, 8, ""}, {"+ inner inner", api.ErrClass, 8, ""},
		{"+ rank - 1", api.ErrClass, 7, ""}, {"+ rank / 1", api.ErrClass, 7, ""}, {"+ rank rank 1", api.ErrClass, 7, ""}, {"+ rank (-) 1", api.ErrClass, 8, ""}, {"+ inner (1 2)", api.ErrClass, 9, ""}, {"+ inner (1 - 2) 3", api.ErrClass, 11, ""}, {"+ over (/) 1", api.ErrClass, 8, ""},
		{"+ {F Y} / {1} 2 / 3", api.ErrClass, 16, ""}, {"+ {G Y} 1", api.ErrClass, 8, ""}, {"+ {G Y}", api.ErrClass, 2, ""}, {"{F Y} 1", api.ErrClass, 0, ""}, {"{G Y} + 1", api.ErrClass, 0, ""}, {"1 {F Y} 2", api.ErrClass, 2, ""}, {"+ rank 1 2 / 3", api.ErrClass, 11, ""},
		{"+ / 1 / 2 /", api.ErrClass, 6, ""}, {"+ inner 1 / 2", api.ErrClass, 8, ""}, {"1 / + inner", api.ErrClass, 2, ""}, {"(/ 1) / 2", api.ErrClass, 1, ""}, {"(/) / 2", api.ErrClass, 1, ""}, {"+ (inner) 1", api.ErrClass, 10, ""}, {"+ (rank) - 1", api.ErrClass, 9, ""}, {"(1) / 2", api.ErrClass, 4, ""},
		// By step 4.
		{"1 +", api.ErrClass, 0, ""}, {"1 2 +", api.ErrClass, 0, ""}, {"f <- 1 +", api.ErrClass, 5, ""}, {"f <- + 1 -", api.ErrClass, 7, ""}, {"f <- 1 + 2 -", api.ErrClass, 5, ""}, {"f <- 1 + - 2 *", api.ErrClass, 11, ""}, {"f <- + 1 - 2 *", api.ErrClass, 7, ""}, {"f <- + - * 1 %", api.ErrClass, 11, ""},
		{"f <- 1 + - *", api.ErrClass, 5, ""}, {"f <- + 1 - * %", api.ErrClass, 7, ""}, {"f <- 1 + 2 - 3 *", api.ErrClass, 5, ""}, {"f <- (1 + 2) -", api.ErrClass, 8, ""}, {"f <- (1 2) -", api.ErrClass, 6, ""}, {"f <- 1 + - 2 * % |", api.ErrClass, 11, ""}, {"(1 +) 2", api.ErrClass, 1, ""}, {"f <- + - 1 2 *", api.ErrClass, 9, ""},
		{"f <- 1 + /", api.ErrClass, 5, ""}, {"f <- 1 + rank 2", api.ErrClass, 5, ""}, {"f <- 1 {Y}", api.ErrClass, 5, ""},
		// An error of the items comes before the missing parenthesis or a wrong token behind them, and behind errors within them.
		{"(1 /", api.ErrClass, 3, ""}, {"(1 / ;", api.ErrClass, 3, ""}, {"1 / )", api.ErrClass, 2, ""}, {"1 / : 2", api.ErrClass, 2, ""}, {"1 + : 2", api.ErrClass, 0, ""}, {"a <- 1 / }", api.ErrClass, 7, ""}, {"1 / (", api.ErrEnd, 5, ""}, {"1 / ()", api.ErrToken, 5, ""}, {"1 / {a <- 1}", api.ErrResult, 4, ""}, {"1 / (2 /", api.ErrClass, 7, ""}, {"1 / a", api.ErrNotFound, 4, "a"},
	})
	for _, s := range []string{"(/", "(+", "a <- (/", "(1", "(inner"} {
		checkFault(t, s, api.ErrEnd, len(s), "")
	}
}

func TestP1202ErrClassNodes(t *testing.T) {
	checkFaults(t, []fault{
		{"+", api.ErrClass, 0, ""}, {" (+)", api.ErrClass, 2, ""}, {"+ -", api.ErrClass, 0, ""}, {"+ /", api.ErrClass, 2, ""}, {"+ rank 1", api.ErrClass, 2, ""}, {"{1}", api.ErrClass, 0, ""}, {"({1})", api.ErrClass, 1, ""}, {"{F 1}", api.ErrClass, 0, ""}, {"/", api.ErrClass, 0, ""}, {"(rank)", api.ErrClass, 1, ""}, {"1 + -", api.ErrClass, 0, ""},
		{"1; +", api.ErrClass, 3, ""}, {"+; 1", api.ErrClass, 0, ""}, {"+ )", api.ErrClass, 0, ""}, {"+ }", api.ErrClass, 0, ""}, {"+ <- 1", api.ErrClass, 0, ""}, {"/ <- 1", api.ErrClass, 0, ""}, {"f <- +; f", api.ErrClass, 8, ""}, {"f <- +; f; f <- 1", api.ErrClass, 8, ""}, {"o <- {F 1}; o", api.ErrClass, 12, ""},
		{"{+}", api.ErrClass, 1, ""}, {"{+", api.ErrClass, 1, ""}, {"{self}", api.ErrClass, 1, ""}, {"{F}", api.ErrClass, 1, ""}, {"{G}", api.ErrClass, 1, ""}, {"{1; + -}", api.ErrClass, 4, ""}, {"{+; 1}", api.ErrClass, 1, ""}, {"{+ )", api.ErrClass, 1, ""}, {"{+ <-", api.ErrClass, 1, ""}, {"{{1}}", api.ErrClass, 1, ""},
		{"{+ : 1; 2}", api.ErrClass, 1, ""}, {"{+ :", api.ErrClass, 1, ""}, {"{/ : a", api.ErrClass, 1, ""}, {"{+ : +; 2}", api.ErrClass, 1, ""}, {"{1 : +; 2}", api.ErrClass, 5, ""}, {"{1 : (- /); 2}", api.ErrClass, 8, ""}, {"{1 : + : 2}", api.ErrClass, 5, ""}, {"{1 : /", api.ErrClass, 5, ""}, {"{1 : + )", api.ErrClass, 5, ""}, {"{1 : {2}}", api.ErrClass, 5, ""}, {"{{1} : 2}", api.ErrClass, 1, ""},
		{"a <- /", api.ErrClass, 5, ""}, {"a <- (each)", api.ErrClass, 6, ""}, {"a <- inner", api.ErrClass, 5, ""}, {"o <- {F 1}; p <- o", api.ErrClass, 17, ""}, {"o <- {G 1}; p <- (o)", api.ErrClass, 18, ""}, {"a <- / )", api.ErrClass, 5, ""}, {"a <- 1; a <- /", api.ErrClass, 13, ""}, {"{a <- \\; 1}", api.ErrClass, 6, ""}, {"a <- / : 1", api.ErrClass, 5, ""},
	})
}

func TestP1202ErrDuplicate(t *testing.T) {
	checkFaults(t, []fault{
		{"a <- 1; a <- 2", api.ErrDuplicate, 8, "a"}, {"a <- 1; a <- +", api.ErrDuplicate, 8, "a"}, {"a <- 1; b2 <- 1; b2 <- {F Y}; a <- 2", api.ErrDuplicate, 17, "b2"}, {"a <- 1;{a <- 1; a <- 2}", api.ErrDuplicate, 16, "a"}, {"a <- 1; a <- a; b", api.ErrDuplicate, 8, "a"}, {"a <- 1; a <- 2 )", api.ErrDuplicate, 8, "a"},
		{"a <- 1; a <- 2 : 3", api.ErrDuplicate, 8, "a"}, {"{a <- 1; a <- 2", api.ErrDuplicate, 9, "a"}, {"a <- 1; a <- b", api.ErrNotFound, 13, "b"}, {"a <- 1; a <- (2", api.ErrEnd, 15, ""}, {"a <- 1; a <- 1 /", api.ErrClass, 15, ""}, {"a <- 1; a <-", api.ErrEnd, 12, ""}, {"a <- 1; a <- ;", api.ErrToken, 13, ""},
		{"a <- 1; a <- {a <- 1}", api.ErrResult, 13, ""}, {"{a <- 1; {a <- 2; a <- 3}", api.ErrDuplicate, 18, "a"}, {"{a <- 1; a} 1; a <- 2; a <- 3", api.ErrDuplicate, 23, "a"},
	})
	checkProgram(t, "a <- 1; b <- 2; aa <- 3", "a@0 1@5; b@8 2@13; aa@16 3@22")
}

func TestP1202ErrResult(t *testing.T) {
	checkFaults(t, []fault{
		{"{}", api.ErrResult, 0, ""}, {" {;\n;}", api.ErrResult, 1, ""}, {"{a <- 1}", api.ErrResult, 0, ""}, {"{1 : 2}", api.ErrResult, 0, ""}, {"{1; a <- 1}", api.ErrResult, 0, ""}, {"{1; 2 : 3;}", api.ErrResult, 0, ""}, {"{{}}", api.ErrResult, 1, ""}, {"{1; {a <- 2}}", api.ErrResult, 4, ""}, {"f <- {} )", api.ErrResult, 5, ""},
		{"{} / a", api.ErrResult, 0, ""}, {"{a <- 1", api.ErrEnd, 7, ""}, {"{1 : 2", api.ErrEnd, 6, ""}, {"{", api.ErrEnd, 1, ""}, {"{a <- 1; a <- 2}", api.ErrDuplicate, 9, "a"}, {"{a <- {1}}", api.ErrResult, 0, ""}, {"1 {} 2", api.ErrResult, 2, ""}, {"/ {}", api.ErrResult, 2, ""}, {"({}", api.ErrResult, 1, ""},
	})
}

func TestP1202ErrLimitStrand(t *testing.T) {
	long, longer := strings.Repeat("1 ", 1000), strings.Repeat("1 ", 1001)
	p, f := Parse(long)
	if len(p.Body) != 1 || len(p.Body[0].Node.Kids) != 1000 || f.Kind != api.OK {
		t.Errorf("Parse of 1000 elements = %s, %+v", shown(bodyTree(p.Body)), f)
	}
	n, f := Expression(longer[2:] + "+ " + long + "(" + long + ") 1 - rank (" + long + ")" + "1")
	if f.Kind != api.ErrLimit || f.At != 2002 || n.Kind != 0 {
		t.Errorf("Expression of 1002 elements = %s, %+v", shown(tree(n)), f)
	}
	checkFaults(t, []fault{
		{longer, api.ErrLimit, 0, ""}, {" (" + longer, api.ErrLimit, 2, ""}, {"+ " + longer + ")", api.ErrLimit, 2, ""}, {"1 + " + longer, api.ErrLimit, 4, ""}, {longer + "+ " + longer, api.ErrLimit, 0, ""}, {long + "+ " + longer + "- 1", api.ErrLimit, 2002, ""}, {long + "(" + longer + ")", api.ErrLimit, 2001, ""},
		{"((1) 2) " + longer, api.ErrLimit, 2, ""}, {"(1 + 2) " + longer, api.ErrLimit, 3, ""}, {"+ rank 0 " + longer, api.ErrLimit, 9, ""}, {"+ rank (" + longer, api.ErrLimit, 8, ""}, {longer + "/", api.ErrClass, 2002, ""}, {longer + "+ inner 1", api.ErrClass, 2010, ""}, {"f <- " + longer + "+", api.ErrLimit, 5, ""}, {"f <- 1 + " + longer + "-", api.ErrLimit, 9, ""},
		{longer + "a", api.ErrNotFound, 2002, "a"}, {longer + "(", api.ErrEnd, 2003, ""}, {"{" + longer + ": 1; 2}", api.ErrLimit, 1, ""}, {"{1 : " + longer + "; 2}", api.ErrLimit, 5, ""}, {"f <- " + long + "+", api.ErrClass, 5, ""}, {longer + ": 1", api.ErrLimit, 0, ""}, {strings.Repeat("1 ", 16384), api.ErrLimit, 0, ""},
	})
	// A right operand is not an element of the strand behind it.
	if n, f := Expression("+ rank 1 " + long); n.Kind != api.NMonad || len(n.Kids[1].Kids) != 1000 || f.Kind != api.OK {
		t.Errorf("Expression = %s, %+v", shown(tree(n)), f)
	}
}

func TestP1202ErrLimitStatements(t *testing.T) {
	full := strings.Repeat("1;", 1000)
	for _, s := range []string{full, full + ";;\n", full[:1999], ";" + full, "f <- {" + full + "}", "f <- {" + full + "\n}", "f <- {" + full[:1999] + "}", "f <- {" + full + "};" + full[2:], full[2:] + "f <- {" + full + "}", "f <- {{" + full + "} 1}"} {
		if p, f := Parse(s); len(p.Body) == 0 || f.Kind != api.OK {
			t.Errorf("Parse(%s) = %+v", shown(s), f)
		}
	}
	checkFaults(t, []fault{
		{full + "1", api.ErrLimit, 2000, ""}, {full + " ;\n 1 )", api.ErrLimit, 2004, ""}, {full + "a <- 1", api.ErrLimit, 2000, ""}, {full + "(", api.ErrLimit, 2000, ""}, {full + "{", api.ErrLimit, 2000, ""}, {full + "1;1;1", api.ErrLimit, 2000, ""}, {full[:1999] + ")", api.ErrToken, 1999, ""}, {full + "}", api.ErrToken, 2000, ""},
		{"f <- {" + full + "1}", api.ErrLimit, 2006, ""}, {"f <- {" + full + "1:2;3}", api.ErrLimit, 2006, ""}, {"f <- {" + full, api.ErrEnd, 2006, ""}, {"f <- {" + full + ";", api.ErrEnd, 2007, ""}, {"f <- {" + full + "};" + full, api.ErrLimit, 2008 + 1998, ""}, {full[2:] + "f <- {" + full + "};1", api.ErrLimit, 1998 + 2008, ""}, {full + "f <- {" + full + "1}", api.ErrLimit, 2000, ""},
		{"f <- {" + strings.Repeat("1:2;", 1000) + "3}", api.ErrLimit, 4006, ""}, {"f <- {" + strings.Repeat("1:2;", 999) + "3}; f", api.ErrClass, 4006, ""},
	})
	var definitions strings.Builder
	for i := range 1000 {
		definitions.WriteString("a" + strconv.Itoa(i) + "<-1;")
	}
	checkFault(t, definitions.String()+"a1", api.ErrLimit, definitions.Len(), "")
	if p, f := Parse(definitions.String()); len(p.Body) != 1000 || f.Kind != api.OK {
		t.Errorf("Parse of 1000 definitions has %d statements, %+v", len(p.Body), f)
	}
}

// deepTexts are texts before and behind an expression that nest its node one level deeper, whether it is an array or a function, and the node of the innermost one.
func deepTexts() [][3]string {
	return [][3]string{
		{"- ", "", "1"}, {"1 + ", "", "1"}, {"(", ") + 1", "1"}, {"(", ") 1", "1"}, {"1 (", ") 2", "1"}, {"", " /", "+"}, {"(", ") inner -", "+"}, {"+ inner (", ")", "-"}, {"", " rank 0", "+"},
		{"(", ") -", "+"}, {"- (", ")", "+"}, {"(", ") - *", "+"}, {"- (", ") *", "+"}, {"* - (", ")", "+"}, {"{f <- ", "; 1}", "+"}, {"+ ", " -", "*"},
	}
}

// nested returns the text of an expression whose node has the given depth.
func nested(parts [3]string, deep int) string {
	return strings.Repeat(parts[0], deep-1) + parts[2] + strings.Repeat(parts[1], deep-1)
}

func TestP1202ErrDeep(t *testing.T) {
	for _, parts := range deepTexts() {
		good, bad := "f <- "+nested(parts, 60), "f <- "+nested(parts, 61)
		p, f := Parse(good)
		if len(p.Body) != 1 || f.Kind != api.OK || depth(p.Body[0].Node) != 60 {
			t.Errorf("Parse(%s) = %s, %+v", shown(good), shown(bodyTree(p.Body)), f)
		}
		checkFault(t, " "+bad, api.ErrDeep, 1, "")
		checkFault(t, "1;\n"+bad+";2", api.ErrDeep, 3, "")
	}
	minus := func(count int) string { return strings.Repeat("-", count) }
	checkFaults(t, []fault{
		{minus(60) + "1", api.ErrDeep, 0, ""}, {" (" + minus(60) + "1)", api.ErrDeep, 1, ""}, {"1 + (2 + " + minus(58) + "1)", api.ErrDeep, 0, ""}, {"1;" + minus(60) + "1;a<-" + minus(60) + "1", api.ErrDeep, 2, ""}, {"a<-1;b<-{1;c<-" + minus(59) + "1;2};c<-" + minus(60) + "1", api.ErrDeep, 5, ""},
		{minus(60) + "1;a", api.ErrNotFound, 62, "a"}, {minus(60) + "1;a<-1;a<-1", api.ErrDuplicate, 67, "a"}, {minus(60) + "1)", api.ErrToken, 61, ""}, {minus(60) + "1 /", api.ErrClass, 62, ""}, {strings.Repeat("1;", 1000) + minus(60) + "1", api.ErrLimit, 2000, ""},
		{minus(16383) + "1", api.ErrDeep, 0, ""}, {"a<-" + strings.Repeat("+ ", 16381) + "+", api.ErrDeep, 0, ""},
	})
	// Each place in a lambda that is called is two levels deeper than the statement.
	for _, place := range [][2]string{{"{", "1}4"}, {"{", "1:2;3}4"}, {"{1:", "2;3}4"}, {"{a<-", "2;3}4"}, {"{2;", "3}4"}} {
		checkFault(t, place[0]+minus(58)+place[1], api.ErrDeep, 0, "")
		if p, f := Parse(place[0] + minus(57) + place[1]); len(p.Body) != 1 || f.Kind != api.OK {
			t.Errorf("Parse(%s) = %s, %+v", place, shown(bodyTree(p.Body)), f)
		}
	}
}

// manyNodes returns an expression of few tokens that has the given number of nodes, which must be odd.
func manyNodes(count int) string { return strings.Repeat("-", count/2) + "1" }

func TestP1202ErrLimitNodes(t *testing.T) {
	most := strings.Repeat(manyNodes(33)+";", 496)
	for s, e := range map[string]api.Errno{
		most + manyNodes(15) + ";1":                 api.OK,
		most + manyNodes(15) + ";-1":                api.ErrLimit,
		most + manyNodes(15) + ";1;2":               api.ErrLimit,
		most + "{" + manyNodes(11) + ":1;2}1":       api.OK,
		most + "{" + manyNodes(11) + ":1;2}1;3":     api.ErrLimit,
		most + "{" + manyNodes(11) + ":-1;2}1":      api.ErrLimit,
		most + "f<-{a<-" + manyNodes(13) + ";2};3":  api.OK,
		most + "f<-{a<-" + manyNodes(13) + ";2};-3": api.ErrLimit,
		"\n " + most + manyNodes(17):                api.ErrLimit,
		most + manyNodes(17) + ";" + manyNodes(121): api.ErrDeep,
		most + manyNodes(17) + "+ /":                api.ErrClass,
	} {
		p, f := Parse(s)
		total := 0
		for _, statement := range p.Body {
			total += size(statement.Node)
		}
		switch {
		case e == api.OK && (total != api.MaxNodes || f.Kind != api.OK):
			t.Errorf("Parse(%s) has %d nodes, %+v", shown(s[len(most):]), total, f)
		case e == api.ErrLimit && (len(p.Body) != 0 || !isFault(f, e, 0, "")):
			t.Errorf("Parse(%s) = %+v; want ErrLimit at 0", shown(s[len(most):]), f)
		case e != f.Kind:
			t.Errorf("Parse(%s) = %+v; want error %d", shown(s[len(most):]), f, e)
		}
	}
}

// The first fault decides, whatever stands behind the token at which it was found.
func TestP1202LeftToRight(t *testing.T) {
	for _, s := range []string{"a", "X", ")", "()", "1 <-", "1:", "{1)", "{}", "{a<-1}", "a<-1;a<-2;", "1 / ;", "1 + ;", "+;", "{+;", "{+:", "{1:+;", "a<-/;", "(1;", strings.Repeat("(", 61), strings.Repeat("1 ", 1001) + ";", strings.Repeat("1;", 1000) + "1"} {
		_, want := Parse(s)
		for _, behind := range []string{"", "1", ")", "}", ":", ";", "b", "(", "{", "X", "/", "+", "<-", "1 / ;", "\n)", "a", " # c", strings.Repeat("-", 70), strings.Repeat("1 ", 2000), strings.Repeat("1;", 2000)} {
			if _, f := Parse(s + " " + behind); !reflect.DeepEqual(f, want) && (s != "a" || !strings.HasPrefix(behind, "<-")) || f.Kind == api.OK {
				t.Errorf("Parse(%s) = %+v; want %+v as without what follows", shown(s+" "+behind), f, want)
			}
		}
	}
}

// small are parts of texts of which any may stand beside any other.
func small() []string {
	return []string{"1", `"s"`, "X", "self", "F", "G", "+", "/", "inner", "rank", "(", ")", "{", "}", ":", "<-", ";", "a"}
}

func TestP1202AllSequences(t *testing.T) {
	checkModel(t, func(send func(s string)) {
		sequences(send, 4, "", "", small()...)
		sequences(send, 3, "{", "}", small()...)
		sequences(send, 3, "{ ", ";1} 2", small()...)
		sequences(send, 3, "(", ") 2", small()...)
		sequences(send, 3, "a<-1;f<-+;o<-{F 1};p<-{G 1}; ", "", append(small(), "f", "o", "p")...)
	})
}

// Longer sequences of items, so that every step has many items.
func TestP1202AllItems(t *testing.T) {
	checkModel(t, func(send func(s string)) {
		sequences(send, 6, "", "", "1", "+", "/", "inner", "rank")
		sequences(send, 7, "f <- ", "", "1", "-", "(2 3)", "(* %)")
		sequences(send, 5, "{", "}1", "F", "G", "Y", ";", ":", "{", "}")
		sequences(send, 6, "", "", "a", "<-", ";", "{", "}", "1")
	})
}

func TestP1202RandomPrograms(t *testing.T) {
	good := 0
	checkModel(t, func(send func(s string)) {
		programs(10000, func(s string) {
			if _, f := Parse(s); f.Kind == api.OK {
				good++
			}
			send(s)
		})
	})
	if good < 5000 {
		t.Errorf("only %d of the programs have no fault", good)
	}
}

// A program that is changed a little has faults of all kinds at all places.
func TestP1202ChangedPrograms(t *testing.T) {
	random := rand.New(rand.NewSource(3))
	parts := append(small(), "f", "o", "p", "a1", "'", "\n", "a <- 1;", "{F Y}", "{1:2;3}")
	faults := map[api.Errno]int{}
	checkModel(t, func(send func(s string)) {
		programs(15000, func(s string) {
			tokens, _ := token.Scan(s)
			var words []string
			for _, one := range tokens {
				words = append(words, s[one.At:one.At+one.Len])
			}
			for range 1 + random.Intn(2) {
				at := random.Intn(len(words) + 1)
				switch to := min(len(words), at+random.Intn(3)); random.Intn(3) {
				case 0:
					words = slices.Delete(words, at, to)
				case 1:
					words = slices.Replace(words, at, to, parts[random.Intn(len(parts))])
				default:
					words = slices.Insert(words, at, parts[random.Intn(len(parts))])
				}
			}
			s = strings.Join(words, " ")
			_, f := Parse(s)
			faults[f.Kind]++
			send(s)
		})
	})
	for _, e := range []api.Errno{api.OK, api.ErrNotFound, api.ErrToken, api.ErrEnd, api.ErrClass, api.ErrDuplicate, api.ErrResult} {
		if faults[e] < 10 {
			t.Errorf("only %d texts have the error %d", faults[e], e)
		}
	}
}

func TestP1203Nodes(t *testing.T) {
	for s, want := range map[string]string{
		"1": "1@0", "+": "+@0", "/": "/@0", "rank": "rank@0", "(1)": "1@1", "{F 1}": "lambda:1@0{expr@1 monad@1(F@1 1@3)}", "{G 1}": "lambda:2@0{expr@1 monad@1(G@1 1@3)}", " 1 # c": "1@1", "{a <- 1; a}": "lambda:f@0{a@1 1@6; expr@9 a:a@9}", "arg": "arg@0",
	} {
		checkNode(t, s, want)
	}
}

func TestP1203Faults(t *testing.T) {
	for _, c := range []fault{
		{"", api.ErrEnd, 0, ""}, {"  ", api.ErrEnd, 2, ""}, {" # c", api.ErrEnd, 4, ""}, {";", api.ErrToken, 0, ""}, {";1", api.ErrToken, 0, ""}, {"\n1", api.ErrToken, 0, ""}, {"1;", api.ErrToken, 1, ""}, {"1\n", api.ErrToken, 1, ""}, {"1 ; 2", api.ErrToken, 2, ""}, {"+ ;", api.ErrToken, 2, ""}, {"/ )", api.ErrToken, 2, ""}, {"1 }", api.ErrToken, 2, ""},
		{"1 : 2", api.ErrToken, 2, ""}, {"+ : 2", api.ErrToken, 2, ""}, {"1 <- 2", api.ErrToken, 2, ""}, {"+ <- 2", api.ErrToken, 2, ""}, {"a <- 1", api.ErrNotFound, 0, "a"}, {"a", api.ErrNotFound, 0, "a"}, {"X", api.ErrToken, 0, ""}, {"1 + Y", api.ErrToken, 4, ""}, {"F", api.ErrToken, 0, ""}, {"(G)", api.ErrToken, 1, ""}, {"self 1", api.ErrToken, 0, ""}, {")", api.ErrToken, 0, ""}, {"(1", api.ErrEnd, 2, ""},
		{"1 / )", api.ErrClass, 2, ""}, {"1 + ;", api.ErrClass, 0, ""}, {"{}", api.ErrResult, 0, ""}, {"{a <- 1; a <- 2; 3}", api.ErrDuplicate, 9, "a"}, {"{+}", api.ErrClass, 1, ""}, {"{1} )", api.ErrToken, 4, ""}, {"12a", api.ErrNumber, 0, ""}, {") 'ab'", api.ErrChar, 2, ""}, {strings.Repeat(" ", api.MaxText+1), api.ErrLong, 0, ""}, {strings.Repeat("(", 61), api.ErrDeep, 60, ""},
		{strings.Repeat("1 ", 1001), api.ErrLimit, 0, ""}, {" 2 + " + strings.Repeat("1 ", 1001) + ";", api.ErrLimit, 5, ""}, {"{" + strings.Repeat("1;", 1001) + "}", api.ErrLimit, 2001, ""},
		{strings.Repeat("-", 60) + "1", api.ErrDeep, 0, ""}, {"1 + " + strings.Repeat("-", 59) + "1", api.ErrDeep, 2, ""}, {"(" + strings.Repeat("-", 60) + "1) 2", api.ErrDeep, 1, ""}, {" ((1 + " + strings.Repeat("-", 59) + "1))", api.ErrDeep, 5, ""}, {strings.Repeat("-", 60) + "1;", api.ErrToken, 61, ""}, {"+" + strings.Repeat("/", 60), api.ErrDeep, 60, ""},
	} {
		checkNodeFault(t, c.text, c.e, c.at, c.name)
	}
}

// A node may have MaxDeep levels and MaxNodes nodes, but no more.
func TestP1203Limits(t *testing.T) {
	for _, parts := range deepTexts() {
		if n, f := Expression(nested(parts, 60)); depth(n) != 60 || f.Kind != api.OK {
			t.Errorf("Expression(%s) = %s, %+v", shown(nested(parts, 60)), shown(tree(n)), f)
		}
	}
	most := strings.Repeat("("+manyNodes(33)+")", 496)
	if n, f := Expression(most + "(" + manyNodes(15) + ")"); size(n) != api.MaxNodes || f.Kind != api.OK {
		t.Errorf("Expression of MaxNodes nodes has %d, %+v", size(n), f)
	}
	checkNodeFault(t, " "+most+"("+manyNodes(15)+") 1", api.ErrLimit, 0, "")
	checkNodeFault(t, most+"("+manyNodes(17)+")", api.ErrLimit, 0, "")
	checkNodeFault(t, most+"("+manyNodes(121)+")", api.ErrDeep, 1, "")
	checkNodeFault(t, most+"("+manyNodes(17)+");", api.ErrToken, len(most)+11, "")
}

// Valid programs at the limits are valid for layer 10, too; that others are, problem checks.
func TestP1204Limits(t *testing.T) {
	for _, s := range []string{strings.Repeat("1;", 1000), strings.Repeat("1 ", 1000), strings.Repeat(manyNodes(33)+";", 496), "f<-" + nested([3]string{"", "/", "+"}, 60), strings.Repeat("-", 59) + "1", `"` + strings.Repeat("a", api.MaxText-2) + `"`, strings.Repeat("(", 60) + "1" + strings.Repeat(")", 60)} {
		p, f := Parse(s)
		if f.Kind != api.OK || syntax.Right(p) != api.OK {
			t.Errorf("Parse(%s) = %+v, and Right returns %d", shown(s), f, syntax.Right(p))
		}
	}
}

func TestP1204SameWithoutOffsets(t *testing.T) {
	for _, s := range texts() {
		p, f := Parse(s)
		n, g := Expression(s)
		if text := roundTrip(s, p, n, f, g); text != "" {
			t.Error(text)
		}
	}
}

// Other separators, other breaks and more parentheses give the same program.
func TestP1204Separators(t *testing.T) {
	programs(500, func(s string) {
		p, f := Parse(s)
		if f.Kind != api.OK {
			return
		}
		tokens, _ := token.Scan(s)
		text := "\t# before\n;"
		for _, one := range tokens {
			word := s[one.At : one.At+one.Len]
			if one.Kind == api.TNumber || one.Kind == api.TString {
				word = "((" + word + "\t))"
			}
			text += word + "\r \t"
		}
		again, fault := Parse(strings.ReplaceAll(text, ";", "\n;; # c\n") + "\n\n")
		if fault.Kind != api.OK || !syntax.SameProgram(again, p) {
			t.Errorf("Parse(%s) is not the same as Parse(%s): %+v", shown(text), shown(s), fault)
		}
	})
}
