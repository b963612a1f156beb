package resolve

import (
	"fmt"
	goparser "go/parser"
	gotoken "go/token"
	"math"
	"math/rand"
	"reflect"
	"runtime"
	"slices"
	"strconv"
	"strings"
	"testing"
	"time"

	"arraylang/api"
	"arraylang/array"
	"arraylang/parser"
	"arraylang/syntax"
)

// parse returns the program of s, which must have no fault.
func parse(t *testing.T, s string) api.Program {
	t.Helper()
	p, f := parser.Parse(s)
	if f.Kind != api.OK {
		t.Fatalf("Parse(%s) = %+v", shown(s), f)
	}
	return p
}

// shown returns v as text, or its beginning and its end if that is long.
func shown(v any) string {
	s := fmt.Sprintf("%+v", v)
	if text, ok := v.(string); ok {
		s = strconv.Quote(text)
	}
	if len(s) > 800 {
		return s[:600] + " .. " + s[len(s)-200:]
	}
	return s
}

// plain returns a copy of v that shares no memory with it, in which empty slices are nil.
func plain[T any](v T) T {
	var result T
	copyTo(reflect.ValueOf(&result).Elem(), reflect.ValueOf(v))
	return result
}

func copyTo(to, from reflect.Value) {
	switch from.Kind() {
	case reflect.Struct:
		for i := range from.NumField() {
			copyTo(to.Field(i), from.Field(i))
		}
	case reflect.Slice:
		if from.Len() > 0 {
			to.Set(reflect.MakeSlice(from.Type(), from.Len(), from.Len()))
			for i := range from.Len() {
				copyTo(to.Index(i), from.Index(i))
			}
		}
	default:
		to.Set(from)
	}
}

// isEqual compares all fields of two values, but takes nil and empty slices as equal.
func isEqual[T any](a, b T) bool { return reflect.DeepEqual(plain(a), plain(b)) }

func isZero(v any) bool { return reflect.ValueOf(v).IsZero() }

// Parts of trees.

func name(s string, class api.Class) api.Node {
	return api.Node{Kind: api.NName, Class: class, Text: s}
}

func literal(a api.Array) api.Node {
	return api.Node{Kind: api.NLiteral, Class: api.ArrayClass, Value: a}
}

func number(n int) api.Node { return literal(array.Scalar(n)) }

func prim(p api.Prim) api.Node { return api.Node{Kind: api.NPrim, Class: api.FunClass, Prim: p} }

func of(kind api.NodeKind, class api.Class, kids ...api.Node) api.Node {
	return api.Node{Kind: kind, Class: class, Kids: kids}
}

func monad(f, y api.Node) api.Node { return of(api.NMonad, api.ArrayClass, f, y) }

func dyad(x, f, y api.Node) api.Node { return of(api.NDyad, api.ArrayClass, f, x, y) }

func lambda(body ...api.Stmt) api.Node {
	return api.Node{Kind: api.NLambda, Class: api.FunClass, Body: body}
}

func expr(n api.Node) api.Stmt { return api.Stmt{Kind: api.SExpr, Node: n} }

func define(s string, n api.Node) api.Stmt { return api.Stmt{Kind: api.SDefine, Name: s, Node: n} }

func guard(test, n api.Node) api.Stmt { return api.Stmt{Kind: api.SGuard, Test: test, Node: n} }

func program(body ...api.Stmt) api.Program { return api.Program{Body: body} }

// The model: what the calls must return, by the chapter's words.

// place is the place of a statement: the number of its body, and its index there.
type place struct{ body, index int }

// definition is a definition of the model, with its slot.
type definition struct {
	place
	name  string
	class api.Class
	slot  int
}

// use is a name that occurs, with the places of the statements that contain it, from the innermost one.
type use struct {
	node       *api.Node
	containing []place
}

// model lists the definitions and the names of a tree in the order of the walk.
type model struct {
	bodies      int
	definitions []definition
	uses        []use
}

// body lists what is in a body and returns the number of its definitions. All slots and depths become those of a resolved program, but for those of the names.
func (m *model) body(list []api.Stmt, containing []place) int {
	number, slots := m.bodies, 0
	m.bodies++
	for i := range list {
		s := &list[i]
		here := append([]place{{number, i}}, containing...)
		if s.Kind == api.SGuard {
			m.node(&s.Test, here)
		}
		m.node(&s.Node, here)
		s.Slot = 0
		if s.Kind == api.SDefine {
			s.Slot = slots
			m.definitions = append(m.definitions, definition{place{number, i}, s.Name, s.Node.Class, slots})
			slots++
		}
	}
	return slots
}

func (m *model) node(n *api.Node, containing []place) {
	n.Depth, n.Slot, n.Slots = 0, 0, 0
	if n.Kind == api.NName {
		m.uses = append(m.uses, use{n, containing})
	}
	for i := range n.Kids {
		m.node(&n.Kids[i], containing)
	}
	slots := m.body(n.Body, containing)
	if n.Kind == api.NLambda {
		n.Slots = slots
	}
}

// definition returns the definition that u refers to, the number of lambdas between them, and whether there is one.
func (m *model) definition(u use) (definition, int, bool) {
	for depth, here := range u.containing {
		for _, d := range m.definitions {
			if d.name == u.node.Text && d.body == here.body && d.index < here.index {
				return d, depth, true
			}
		}
	}
	return definition{}, 0, false
}

func expectProgram(p api.Program) (api.Unit, api.Fault) {
	if e := syntax.Right(p); e != api.OK {
		return api.Unit{}, api.Fault{Kind: e}
	}
	m, body := model{}, plain(p.Body)
	slots := m.body(body, nil)
	for _, u := range m.uses {
		d, depth, ok := m.definition(u)
		if !ok {
			return api.Unit{}, api.Fault{Kind: api.ErrNotFound, At: u.node.At, Name: u.node.Text}
		}
		if d.class != u.node.Class {
			return api.Unit{}, api.Fault{Kind: api.ErrClass, At: u.node.At, Name: u.node.Text}
		}
		u.node.Depth, u.node.Slot = depth, d.slot
	}
	return api.Unit{Body: body, Slots: slots}, api.Fault{}
}

func expectRight(u api.Unit) api.Errno {
	if e := syntax.Right(api.Program{Body: u.Body}); e != api.OK {
		return e
	}
	if resolved, _ := expectProgram(api.Program{Body: u.Body}); !isEqual(u, resolved) {
		return api.ErrClass
	}
	return api.OK
}

func depth(n api.Node) int {
	deepest := 0
	for _, kid := range n.Kids {
		deepest = max(deepest, depth(kid))
	}
	for _, s := range n.Body {
		deepest = max(deepest, depth(s.Node))
		if s.Kind == api.SGuard {
			deepest = max(deepest, depth(s.Test))
		}
	}
	return deepest + 1
}

func expectFree(n api.Node) []string {
	if depth(n) > api.MaxDeep {
		return nil
	}
	m, n := model{}, plain(n)
	m.node(&n, nil)
	var list []string
	for _, u := range m.uses {
		if _, _, ok := m.definition(u); !ok && !slices.Contains(list, u.node.Text) {
			list = append(list, u.node.Text)
		}
	}
	slices.Sort(list)
	return list
}

// checkProgram checks Program and Right for p against the model, and returns the fault.
func checkProgram(t *testing.T, p api.Program) api.Errno {
	t.Helper()
	u, f := Program(p)
	want, fault := expectProgram(p)
	if !isEqual(u, want) || !isEqual(f, fault) {
		t.Errorf("Program(%s) = %s, %+v; want %s, %+v", shown(p), shown(u), f, shown(want), fault)
	}
	if f.Kind == api.OK {
		if !syntax.SameProgram(p, api.Program{Body: u.Body}) {
			t.Errorf("Program(%s) is another program", shown(p))
		}
		if e := Right(u); e != api.OK {
			t.Errorf("Right of Program(%s) = %d", shown(p), e)
		}
	}
	return f.Kind
}

// checkRight checks Right for u against the model, and returns the error.
func checkRight(t *testing.T, u api.Unit) api.Errno {
	t.Helper()
	got := Right(u)
	if want := expectRight(u); got != want {
		t.Errorf("Right(%s) = %d; want %d", shown(u), got, want)
	}
	return got
}

// checkFree checks Free for n, and for the nodes within it, against the model.
func checkFree(t *testing.T, n api.Node) {
	t.Helper()
	if got, want := Free(n), expectFree(n); !slices.Equal(got, want) {
		t.Errorf("Free(%s) = %q; want %q", shown(n), got, want)
	}
	for _, kid := range n.Kids {
		checkFree(t, kid)
	}
	for _, s := range n.Body {
		checkFree(t, s.Test)
		checkFree(t, s.Node)
	}
}

// Random programs.

// pool holds the names that random programs define. They are few, so that many are hidden.
var pool = []string{"a", "b", "c", "d0", "e"}

// maker makes random programs without faults. The scopes hold the letters of the classes of the names, the outermost first; arrays and functions are what only the innermost lambda may mention.
type maker struct {
	*rand.Rand
	scopes            []map[string]string
	arrays, functions []string
}

func (m *maker) one(list ...string) string { return list[m.Intn(len(list))] }

// named returns a name that refers to a definition of the class with this letter, or other.
func (m *maker) named(letter, other string) string {
	var list []string
	for _, s := range pool {
		for _, scope := range slices.Backward(m.scopes) {
			if l, ok := scope[s]; ok {
				if l == letter {
					list = append(list, s)
				}
				break
			}
		}
	}
	if len(list) == 0 || m.Intn(5) == 0 {
		return other
	}
	return m.one(list...)
}

func (m *maker) array(deep int) string {
	leaf := m.named("a", m.one("1", "_2", "'c'", `"text"`, `""`, "arg"))
	if len(m.arrays) > 0 && m.Intn(4) == 0 {
		leaf = m.one(m.arrays...)
	}
	if deep <= 0 {
		return leaf
	}
	switch m.Intn(6) {
	case 0:
		return leaf + " " + m.array(deep-1)
	case 1:
		return "(" + m.array(deep-1) + ") " + m.array(0)
	case 2, 3:
		return m.function(deep-1) + " " + m.array(deep-1)
	}
	return m.array(0) + " " + m.function(deep-1) + " " + m.array(deep-1)
}

func (m *maker) function(deep int) string {
	leaf := m.named("f", m.one("+", "<=", "iota"))
	if len(m.functions) > 0 && m.Intn(4) == 0 {
		leaf = m.one(m.functions...)
	}
	if deep <= 0 {
		return leaf
	}
	switch m.Intn(6) {
	case 0:
		return m.function(deep-1) + " " + m.operator1(deep-1)
	case 1:
		return m.function(deep-1) + " " + m.operator2(deep-1) + " " + m.function(0)
	case 2:
		return m.function(0) + " " + m.one("rank", "power", "stencil") + " " + m.array(0)
	case 3:
		return "(" + m.one("", m.array(0)+" "+m.function(0)+" ", m.function(0)+" "+m.function(0)+" ") + m.function(deep-1) + ")"
	}
	return m.lambda(deep)
}

func (m *maker) operator1(deep int) string {
	if deep > 1 && m.Intn(3) == 0 {
		return m.lambda(deep, "F")
	}
	return m.named("1", m.one("/", "\\", "each", "swap", "outer"))
}

func (m *maker) operator2(deep int) string {
	if deep > 1 && m.Intn(3) == 0 {
		return m.lambda(deep, "F", "G")
	}
	return m.named("2", m.one("inner", "atop", "over"))
}

// lambda returns a lambda with these operands.
func (m *maker) lambda(deep int, operands ...string) string {
	inside := &maker{m.Rand, append(slices.Clone(m.scopes), map[string]string{}), []string{"X", "Y"}, append(operands, "self")}
	text := inside.statements(deep-1, m.Intn(4))
	return "{" + text + strings.Join(operands, " ") + " " + inside.array(deep-1) + "}"
}

// statements returns count statements, each with a break behind it.
func (m *maker) statements(deep, count int) string {
	scope := m.scopes[len(m.scopes)-1]
	text := ""
	for range count {
		s, letter := m.one(pool...), m.one("a", "a", "f", "f", "1", "2", "expr", "guard")
		switch {
		case letter == "guard" && len(m.scopes) > 1:
			text += m.array(deep-1) + " : " + m.array(deep-1)
		case scope[s] != "" || letter == "expr" || letter == "guard":
			text += m.array(deep)
		default:
			text += s + " <- " + m.defined(deep, letter)
			scope[s] = letter
		}
		text += m.one(";", "\n")
	}
	return text
}

// defined returns what a definition with this letter defines.
func (m *maker) defined(deep int, letter string) string {
	switch letter {
	case "a":
		return m.array(deep)
	case "f":
		return m.function(deep)
	case "1":
		return m.lambda(deep, "F")
	}
	return m.lambda(deep, "F", "G")
}

// texts returns the texts of random programs.
func texts(count int) []string {
	random := rand.New(rand.NewSource(14))
	var list []string
	for i := range count {
		m := &maker{Rand: random, scopes: []map[string]string{{}}}
		if s := m.statements(1+i%5, 1+random.Intn(7)); len(s) < 3000 {
			list = append(list, s)
		}
	}
	return list
}

// programs returns random programs without faults.
func programs(t *testing.T, count int) []api.Program {
	t.Helper()
	var list []api.Program
	for _, s := range texts(count) {
		list = append(list, parse(t, s))
	}
	if len(list) < count/2 {
		t.Fatalf("only %d programs are short enough", len(list))
	}
	return list
}

// resolved returns random programs that are resolved.
func resolved(t *testing.T, count int) []api.Unit {
	t.Helper()
	var list []api.Unit
	for _, p := range programs(t, count) {
		u, f := Program(p)
		if f.Kind != api.OK {
			t.Fatalf("Program = %+v", f)
		}
		list = append(list, u)
	}
	return list
}

// bodies calls visit with all bodies within one.
func bodies(body *[]api.Stmt, visit func(body *[]api.Stmt)) {
	var within func(n *api.Node)
	within = func(n *api.Node) {
		for i := range n.Kids {
			within(&n.Kids[i])
		}
		if len(n.Body) > 0 {
			bodies(&n.Body, visit)
		}
	}
	visit(body)
	for i := range *body {
		within(&(*body)[i].Test)
		within(&(*body)[i].Node)
	}
}

// nodes calls visit with all nodes within a body, the Tests of other statements than guards among them.
func nodes(body []api.Stmt, visit func(n *api.Node)) {
	var within func(n *api.Node)
	within = func(n *api.Node) {
		visit(n)
		for i := range n.Kids {
			within(&n.Kids[i])
		}
		nodes(n.Body, visit)
	}
	for i := range body {
		within(&body[i].Test)
		within(&body[i].Node)
	}
}

// changed returns p with a random change of a name, of a definition or of the order of statements.
func changed(random *rand.Rand, p api.Program) api.Program {
	p = plain(p)
	var lists []*[]api.Stmt
	var names []*api.Node
	bodies(&p.Body, func(body *[]api.Stmt) {
		if len(*body) > 0 {
			lists = append(lists, body)
		}
	})
	nodes(p.Body, func(n *api.Node) {
		if n.Kind == api.NName {
			names = append(names, n)
		}
	})
	if len(lists) == 0 {
		return p
	}
	list := lists[random.Intn(len(lists))]
	i, j, other := random.Intn(len(*list)), random.Intn(len(*list)), pool[random.Intn(len(pool))]
	switch random.Intn(6) {
	case 0:
		(*list)[i], (*list)[j] = (*list)[j], (*list)[i]
	case 1:
		*list = slices.Delete(*list, i, i+1)
	case 2, 3:
		if (*list)[i].Kind == api.SDefine {
			(*list)[i].Name = other
		}
	default:
		if len(names) > 0 {
			names[random.Intn(len(names))].Text = other
		}
	}
	return p
}

// leaves calls visit with each number, text and slice in v, and with the names of the fields that lead to it.
func leaves(v reflect.Value, path string, visit func(path string, v reflect.Value)) {
	switch v.Kind() {
	case reflect.Struct:
		for i := range v.NumField() {
			leaves(v.Field(i), path+"."+v.Type().Field(i).Name, visit)
		}
	case reflect.Slice:
		visit(path, v)
		for i := range v.Len() {
			leaves(v.Index(i), path+"["+strconv.Itoa(i)+"]", visit)
		}
	default:
		visit(path, v)
	}
}

// variants changes u in each of its places in turn, and calls visit with the path of the place for each change.
func variants(u *api.Unit, visit func(path string)) {
	leaves(reflect.ValueOf(u).Elem(), "", func(path string, v reflect.Value) {
		before := reflect.New(v.Type()).Elem()
		before.Set(v)
		switch v.Kind() {
		case reflect.Int:
			for _, by := range []int64{1, -1, 1 << 40, math.MinInt} {
				v.SetInt(before.Int() + by)
				visit(path)
			}
		case reflect.String:
			for _, s := range []string{before.String() + "z", "a", "b", ""} {
				if s != before.String() {
					v.SetString(s)
					visit(path)
				}
			}
		case reflect.Slice:
			v.Set(reflect.Append(before.Slice3(0, before.Len(), before.Len()), reflect.Zero(v.Type().Elem())))
			visit(path)
			if before.Len() > 0 {
				v.Set(before.Slice(0, before.Len()-1))
				visit(path)
			}
		}
		v.Set(before)
	})
}

// inTime fails if the call takes long.
func inTime(t *testing.T, call func()) {
	t.Helper()
	start := time.Now()
	call()
	if took := time.Since(start); took > 10*time.Second {
		t.Errorf("the calls take %v", took)
	}
}

// P1401: the general rules.

// everything returns the results of all calls for p.
func everything(p api.Program) string {
	u, f := Program(p)
	given := api.Unit{Body: p.Body}
	s := fmt.Sprintf("%+v %+v %d %d %t %t", u, f, Right(u), Right(given), Same(u, u), Same(u, given))
	for _, one := range p.Body {
		s += fmt.Sprintf(" %q", Free(one.Node))
	}
	return s
}

// A call that kept something of an earlier one would return something else after other calls.
func TestP1401Pure(t *testing.T) {
	random := rand.New(rand.NewSource(1))
	var list []api.Program
	for _, p := range programs(t, 300) {
		list = append(list, p, changed(random, p))
	}
	again := plain(list)
	var first []string
	for _, p := range list {
		first = append(first, everything(p))
	}
	for i := len(list) - 1; i >= 0; i-- {
		if got := everything(list[i]); got != first[i] {
			t.Errorf("the calls return %s, then %s", shown(first[i]), shown(got))
		}
	}
	if !reflect.DeepEqual(plain(list), again) {
		t.Error("the calls change their arguments")
	}
}

// memory is the extent of a slice in memory, with its capacity.
type memory struct{ from, to uintptr }

// memories returns the extents of all slices in v.
func memories(v reflect.Value) []memory {
	var list []memory
	switch v.Kind() {
	case reflect.Struct:
		for i := range v.NumField() {
			list = append(list, memories(v.Field(i))...)
		}
	case reflect.Slice:
		if v.Cap() > 0 {
			list = append(list, memory{v.Pointer(), v.Pointer() + uintptr(v.Cap())*v.Type().Elem().Size()})
		}
		for i := range v.Len() {
			list = append(list, memories(v.Index(i))...)
		}
	}
	return list
}

// No slice of a result shares memory with another one or with the argument, also not behind its length.
func TestP1401OwnMemory(t *testing.T) {
	total := 0
	for _, p := range programs(t, 300) {
		// Statements that share their nodes, and empty lists with room for more.
		p.Body = append(p.Body, expr(literal(api.Array{Kind: api.Char, Shape: make([]int, 1, 5), Nums: make([]int, 0, 5)})))
		p.Body = append(p.Body, p.Body[len(p.Body)-1])
		p.Body[0].Test.Kids = make([]api.Node, 0, 5)
		u, f := Program(p)
		again, _ := Program(p)
		if f.Kind != api.OK {
			t.Fatalf("Program(%s) = %+v", shown(p), f)
		}
		list := append(memories(reflect.ValueOf(u)), memories(reflect.ValueOf(again))...)
		total += len(list)
		list = append(list, memories(reflect.ValueOf(plain(p)))...)
		given := memories(reflect.ValueOf(p))
		for _, m := range given {
			for _, other := range list {
				if m.from < other.to && other.from < m.to {
					t.Fatalf("the result for %s shares memory with the argument", shown(p))
				}
			}
		}
		slices.SortFunc(list, func(a, b memory) int { return int(a.from) - int(b.from) })
		for i := range len(list) - 1 {
			if list[i].to > list[i+1].from {
				t.Fatalf("two slices in the results for %s share memory", shown(p))
			}
		}
		runtime.KeepAlive([]any{p, u, again}) // Memory that is free may be used twice.
	}
	if total < 10000 {
		t.Errorf("only %d slices were compared", total)
	}
	n := lambda(expr(dyad(name("a", 1), name("b", 2), name("a", 1))), expr(name("c", 1)))
	list, again := Free(n), Free(n)
	list[0], list[1], list[2] = "", "", ""
	if !slices.Equal(again, []string{"a", "b", "c"}) || !slices.Equal(Free(n), again) {
		t.Errorf("the results of Free share memory: %q", again)
	}
}

// Nil and empty lists are the same.
func TestP1401NilIsEmpty(t *testing.T) {
	for _, p := range programs(t, 100) {
		u, _ := Program(p)
		full := plain(u)
		nodes(full.Body, func(n *api.Node) {
			if len(n.Kids) == 0 {
				n.Kids = []api.Node{}
			}
			if len(n.Body) == 0 {
				n.Body = []api.Stmt{}
			}
			if n.Kind == api.NLiteral && len(n.Value.Shape) == 0 {
				n.Value.Shape, n.Value.Items = []int{}, []api.Array{}
			}
		})
		if !Same(u, full) || !Same(full, u) || Right(full) != api.OK {
			t.Errorf("with empty lists %s is not the same", shown(u))
		}
		if again, f := Program(api.Program{Body: full.Body}); !isZero(f) || !isEqual(again, u) {
			t.Errorf("with empty lists Program(%s) = %s, %+v", shown(p), shown(again), f)
		}
	}
	for _, body := range [][]api.Stmt{nil, {}} {
		u, f := Program(api.Program{Body: body})
		if !isZero(f) || len(u.Body) != 0 || u.Slots != 0 || Right(u) != api.OK || Right(api.Unit{Body: body}) != api.OK || !Same(u, api.Unit{Body: body}) {
			t.Errorf("Program of no statements = %+v, %+v", u, f)
		}
	}
}

// Every call must return for all arguments, with nothing but the fault if there is one; a panic fails the test.
func TestP1401AllArguments(t *testing.T) {
	random := rand.New(rand.NewSource(2))
	numbers := []int{-1, 0, 1, 2, 3, 4, 5, 1000, math.MinInt, math.MaxInt}
	var list []api.Program
	for _, p := range programs(t, 3000) {
		var found []reflect.Value
		leaves(reflect.ValueOf(&p).Elem(), "", func(_ string, v reflect.Value) { found = append(found, v) })
		for range random.Intn(3) + 1 {
			switch v := found[random.Intn(len(found))]; v.Kind() {
			case reflect.Int:
				v.SetInt(int64(numbers[random.Intn(len(numbers))]))
			case reflect.String:
				v.SetString([]string{"", "a", "b", "A", "arg", "\xff", strings.Repeat("a", 33)}[random.Intn(7)])
			case reflect.Slice:
				v.Set(reflect.MakeSlice(v.Type(), random.Intn(3), 3))
			}
		}
		list = append(list, p)
	}
	list = append(list, program(api.Stmt{}), program(make([]api.Stmt, api.MaxStmts+1)...), program(expr(api.Node{Kind: api.NName})), program(expr(api.Node{Kind: -1, Class: -1})))
	for _, p := range list {
		checkProgram(t, p)
		u, f := Program(p)
		if !isZero(f) && !isZero(u) || len(f.Left)+len(f.Right) != 0 {
			t.Errorf("Program(%s) = %s, %+v", shown(p), shown(u), f)
		}
		hasName := f.Kind == api.ErrNotFound || f.Kind == api.ErrClass && f.Name != ""
		if f.Kind != api.OK && !hasName && (f.At != 0 || f.Name != "") {
			t.Errorf("Program(%s) = %+v", shown(p), f)
		}
		given := api.Unit{Body: p.Body}
		checkRight(t, given)
		if !Same(given, plain(given)) {
			t.Errorf("%s is not the same as itself", shown(given))
		}
		for _, s := range p.Body {
			if got, want := Free(s.Node), expectFree(s.Node); !slices.Equal(got, want) {
				t.Errorf("Free(%s) = %q; want %q", shown(s.Node), got, want)
			}
		}
	}
}

// Trees can share their nodes, or contain themselves.
func TestP1401Ends(t *testing.T) {
	kids, body, guards := make([]api.Node, 2), make([]api.Stmt, 2), make([]api.Stmt, 2)
	for i := range kids {
		kids[i] = of(api.NStrand, api.ArrayClass, kids...)
		kids[i].Kids = kids
		body[i] = expr(monad(lambda(), number(1)))
		body[i].Node.Kids[0].Body = body
		guards[i] = guard(monad(lambda(), number(1)), number(2))
		guards[i].Test.Kids[0].Body = guards
	}
	endless := []api.Node{kids[0], body[0].Node, lambda(guards...), of(api.NTrain, api.FunClass, kids[0], prim(api.PAdd)), lambda(body...)}
	inTime(t, func() {
		for i, n := range endless {
			if u, f := Program(program(expr(n))); f.Kind != api.ErrDeep || !isZero(u) {
				t.Errorf("Program of the endless tree %d: %+v", i, f)
			}
			if e := Right(api.Unit{Body: []api.Stmt{expr(n)}}); e != api.ErrDeep {
				t.Errorf("Right of the endless tree %d = %d", i, e)
			}
			if list := Free(n); list != nil {
				t.Errorf("Free of the endless tree %d = %q", i, list)
			}
		}
		many := of(api.NStrand, api.ArrayClass, name("a", api.ArrayClass), name("b", api.ArrayClass))
		inner := lambda(define("a", many), expr(many))
		for range 28 {
			many = of(api.NStrand, api.ArrayClass, many, many)
			inner = lambda(define("b", inner), expr(monad(inner, many)))
		}
		if list := Free(many); !slices.Equal(list, []string{"a", "b"}) {
			t.Errorf("Free of a strand with shared elements = %q", list)
		}
		if list := Free(inner); !slices.Equal(list, []string{"a", "b"}) {
			t.Errorf("Free of a lambda with shared statements = %q", list)
		}
		if _, f := Program(program(define("f", inner))); f.Kind != api.ErrLimit {
			t.Errorf("Program of a lambda with shared statements: %+v", f)
		}
	})
}

// The package uses only the layers that the document lists for it.
func TestP1401Imports(t *testing.T) {
	file, err := goparser.ParseFile(gotoken.NewFileSet(), "resolve.go", nil, goparser.ImportsOnly)
	if err != nil {
		t.Fatal(err)
	}
	for _, spec := range file.Imports {
		path := strings.Trim(spec.Path.Value, `"`)
		if strings.HasPrefix(path, "arraylang/") && !slices.Contains([]string{"arraylang/api", "arraylang/syntax", "arraylang/names"}, path) {
			t.Errorf("the package imports %s", path)
		}
	}
}

// P1402: Program.

// trace returns, in the order of the walk, each name of u with its offset, depth and slot, each lambda with its offset and slots, and each definition with its slot.
func trace(u api.Unit) string {
	words := []string{strconv.Itoa(u.Slots)}
	var within func(n api.Node)
	var list func(body []api.Stmt)
	within = func(n api.Node) {
		switch n.Kind {
		case api.NName:
			words = append(words, fmt.Sprintf("%s@%d:%d.%d", n.Text, n.At, n.Depth, n.Slot))
		case api.NLambda:
			words = append(words, fmt.Sprintf("{@%d:%d", n.At, n.Slots))
		}
		for _, kid := range n.Kids {
			within(kid)
		}
		list(n.Body)
	}
	list = func(body []api.Stmt) {
		for _, s := range body {
			within(s.Test)
			within(s.Node)
			if s.Kind == api.SDefine {
				words = append(words, fmt.Sprintf("%s<-%d", s.Name, s.Slot))
			}
		}
	}
	list(u.Body)
	return strings.Join(words, " ")
}

// The offsets of the names and lambdas tell which of them is meant.
func TestP1402Resolved(t *testing.T) {
	for s, want := range map[string]string{
		"":                                            "0",
		"1 + 2":                                       "0",
		"a <- 1; f <- {a + Y}; f 2":                   "2 a<-0 {@13:0 a@14:1.0 f<-1 f@22:0.1",
		"a <- 1; a":                                   "1 a<-0 a@8:0.0",
		"a <- 1; b <- 2; b; a":                        "2 a<-0 b<-1 b@16:0.1 a@19:0.0",
		"a <- 1; b <- a; c <- b":                      "3 a<-0 a@13:0.0 b<-1 b@21:0.1 c<-2",
		"1; a <- 1; 2; b <- 2; 3; b":                  "2 a<-0 b<-1 b@25:0.1",
		"f <- +; 1 f 2":                               "1 f<-0 f@10:0.0",
		"o <- {F Y}; - o 1":                           "1 {@5:0 o<-0 o@14:0.0",
		"o <- {F G Y}; - o + 1":                       "1 {@5:0 o<-0 o@16:0.0",
		"{Y} 1":                                       "0 {@0:0",
		"{a <- Y; a} 1":                               "0 {@0:1 a<-0 a@9:0.0",
		"{a <- Y; b <- X; a + b} 1":                   "0 {@0:2 a<-0 b<-1 a@17:0.0 b@21:0.1",
		"{a <- Y; 1 : a; b <- a; b} 1":                "0 {@0:2 a<-0 a@13:0.0 a@21:0.0 b<-1 b@24:0.1",
		"{a <- Y; a : 2; a} 1":                        "0 {@0:1 a<-0 a@9:0.0 a@16:0.0",
		"a <- 1; {a <- a; a} a":                       "1 a<-0 {@8:1 a@14:1.0 a<-0 a@17:0.0 a@20:0.0",
		"a <- 1; {{a} 1} 1":                           "1 a<-0 {@8:0 {@9:0 a@10:2.0",
		"a <- 1; {{a} 1 : a; 1} 1":                    "1 a<-0 {@8:0 {@9:0 a@10:2.0 a@17:1.0",
		"a <- 1; {b <- 2; {a + b} 1} 1":               "1 a<-0 {@8:1 b<-0 {@17:0 a@18:2.0 b@22:1.0",
		"a <- 1; {b <- 2; a <- 3; {a b} 1} a":         "1 a<-0 {@8:2 b<-0 a<-1 {@25:0 a@26:1.1 b@28:1.0 a@34:0.0",
		"f <- -; g <- {f <- {f Y}; f Y}; g 1":         "2 f<-0 {@13:1 {@19:0 f@20:2.0 f<-0 f@26:0.0 g<-1 g@32:0.1",
		"a <- 1; f <- {a}; g <- {a <- 2; {a} 1}; f 1": "3 a<-0 {@13:0 a@14:1.0 f<-1 {@23:1 a<-0 {@32:0 a@33:1.0 g<-2 f@40:0.1",
		"a <- 1; {a} {a <- 2; a} a":                   "1 a<-0 {@8:0 a@9:1.0 {@12:1 a<-0 a@21:0.0 a@24:0.0",
		"a <- 1; {a <- +; b <- 1 a 2; b} a":           "1 a<-0 {@8:2 a<-0 a@24:0.0 b<-1 b@29:0.1 a@32:0.0",
		"a <- 1; b <- {a <- {F Y}; - a 1} a; b":       "2 a<-0 {@13:1 {@19:0 a<-0 a@28:0.0 a@33:0.0 b<-1 b@36:0.1",
		"{{{Y} Y} Y} 1":                               "0 {@0:0 {@1:0 {@2:0",
		"a <- 1; (a) (a a) - a":                       "1 a<-0 a@9:0.0 a@13:0.0 a@15:0.0 a@20:0.0",
		"a <- 1; + rank a 1":                          "1 a<-0 a@15:0.0",
		"f <- +; o <- {F G Y}; (f o f) (f f) 1":       "2 f<-0 {@13:0 o<-1 o@25:0.1 f@23:0.0 f@27:0.0 f@31:0.0 f@33:0.0",
	} {
		u, f := Program(parse(t, s))
		if got := trace(u); got != want || !isZero(f) {
			t.Errorf("Program of %q = %s, %+v; want %s", s, got, f, want)
		}
		checkProgram(t, parse(t, s))
	}
}

// fault is a program that has a fault: it consists of the statements of a text without the first ones.
type fault struct {
	text  string
	first int
	kind  api.Errno
	at    int
	name  string
}

func TestP1402Faults(t *testing.T) {
	for _, c := range []fault{
		{"a <- 1; a", 1, api.ErrNotFound, 8, "a"},
		{"a <- 1; b <- a; b", 1, api.ErrNotFound, 13, "a"},
		{"a <- 1; b <- 2; b; a; b", 1, api.ErrNotFound, 19, "a"},
		{"abc1 <- 1; 2 + abc1", 1, api.ErrNotFound, 15, "abc1"},
		// In the node of its own definition, and before it.
		{"a <- 1; {a <- a; a} 1", 1, api.ErrNotFound, 14, "a"},
		{"f <- +; {f <- {f Y}; f Y} 1", 1, api.ErrNotFound, 15, "f"},
		{"a <- 1; {a : 2; a <- 3; a} 1", 1, api.ErrNotFound, 9, "a"},
		{"a <- 1; {2 : a; a <- 3; a} 1", 1, api.ErrNotFound, 13, "a"},
		{"a <- 1; {b <- {a} 1; a <- 2; b} 1", 1, api.ErrNotFound, 15, "a"},
		// In a body beside the one with the definition, or within it.
		{"a <- 1; {a <- 2; a} a", 1, api.ErrNotFound, 20, "a"},
		{"a <- 1; {a} {a <- 2; a} 1", 1, api.ErrNotFound, 9, "a"},
		{"a <- 1; {a <- 2; a} 1; a", 1, api.ErrNotFound, 23, "a"},
		{"a <- 1; b <- {a <- 2; a} 1; {a + b} 1", 1, api.ErrNotFound, 29, "a"},
		{"a <- 1; {{a <- 2; a} 1 : 2; a} 1", 1, api.ErrNotFound, 28, "a"},
		// The first one in the order of the kids: the operator, the function, the left argument, the right one.
		{"a <- 1; b <- 2; f <- +; a f b", 3, api.ErrNotFound, 26, "f"},
		{"a <- 1; b <- 2; a + b", 2, api.ErrNotFound, 16, "a"},
		{"a <- 1; f <- -; f a", 2, api.ErrNotFound, 16, "f"},
		{"f <- +; o <- {F Y}; f o 1", 2, api.ErrNotFound, 22, "o"},
		{"f <- +; g <- +; o <- {F G Y}; f o g 1", 3, api.ErrNotFound, 32, "o"},
		{"f <- +; g <- +; f inner g 1", 2, api.ErrNotFound, 16, "f"},
		{"g <- +; - inner g 1", 1, api.ErrNotFound, 16, "g"},
		{"a <- 1; b <- 2; a b", 2, api.ErrNotFound, 16, "a"},
		{"b <- 2; 1 (2 b) b", 1, api.ErrNotFound, 13, "b"},
		{"f <- +; g <- +; h <- +; k <- f g h", 3, api.ErrNotFound, 29, "f"},
		{"f <- +; g <- +; h <- +; k <- - g h", 3, api.ErrNotFound, 31, "g"},
		{"f <- +; g <- +; h <- +; k <- - - h", 3, api.ErrNotFound, 33, "h"},
		{"a <- 1; k <- a - -", 1, api.ErrNotFound, 13, "a"},
		// A guard's test comes before its result, and the statements of a lambda in order.
		{"a <- 1; b <- 2; {a : b; 3} 1", 2, api.ErrNotFound, 17, "a"},
		{"a <- 1; b <- 2; {1 : b; a} 1", 2, api.ErrNotFound, 21, "b"},
		{"a <- 1; b <- 2; {a; b} b", 2, api.ErrNotFound, 17, "a"},
		{"a <- 1; b <- 2; c <- {b} 1; a", 2, api.ErrNotFound, 22, "b"},
		{"a <- 1; b <- 2; {c <- b; a : 1; 2} 1", 2, api.ErrNotFound, 22, "b"},
	} {
		p := parse(t, c.text)
		p.Body = p.Body[c.first:]
		u, f := Program(p)
		if want := (api.Fault{Kind: c.kind, At: c.at, Name: c.name}); !reflect.DeepEqual(f, want) || !isZero(u) {
			t.Errorf("Program of the end of %q = %s, %+v; want %+v", c.text, shown(u), f, want)
		}
		checkProgram(t, p)
		if e := Right(api.Unit{Body: p.Body}); e != api.ErrClass {
			t.Errorf("Right of the end of %q = %d", c.text, e)
		}
	}
}

// The classes of a name and of its definition differ; what it hides does not count.
func TestP1402ErrClass(t *testing.T) {
	operand := func(kind api.NodeKind) api.Node { return monad(api.Node{Kind: kind, Class: api.FunClass}, number(1)) }
	defined := map[api.Class]api.Node{
		api.ArrayClass: number(1),
		api.FunClass:   prim(api.PAdd),
		api.Op1Class:   {Kind: api.NLambda, Class: api.Op1Class, Body: []api.Stmt{expr(operand(api.NOperand1))}},
		api.Op2Class:   {Kind: api.NLambda, Class: api.Op2Class, Body: []api.Stmt{expr(operand(api.NOperand2))}},
	}
	for class, node := range defined {
		for other := api.ArrayClass; other <= api.Op2Class; other++ {
			n := name("z", other)
			n.At = 7
			used := map[api.Class]api.Node{
				api.ArrayClass: n,
				api.FunClass:   monad(n, number(1)),
				api.Op1Class:   monad(of(api.NDerive1, api.FunClass, n, prim(api.PSub)), number(1)),
				api.Op2Class:   monad(of(api.NDerive2, api.FunClass, n, prim(api.PSub), prim(api.PSub)), number(1)),
			}[other]
			inner := expr(monad(lambda(define("z", node), expr(used)), number(3)))
			for i, p := range []api.Program{
				program(define("z", node), expr(used)),
				program(define("y", prim(api.PSub)), define("z", node), expr(monad(lambda(expr(used)), number(2)))),
				program(define("z", defined[other]), inner),
				program(define("y", number(0)), define("z", defined[other]), expr(monad(lambda(guard(number(0), inner.Node), inner), number(4)))),
			} {
				var want api.Fault
				if class != other {
					want = api.Fault{Kind: api.ErrClass, At: 7, Name: "z"}
				}
				if u, f := Program(p); !reflect.DeepEqual(f, want) || class != other && !isZero(u) {
					t.Errorf("Program %d with %d and %d = %s, %+v; want %+v", i, class, other, shown(u), f, want)
				}
				checkProgram(t, p)
			}
		}
	}
}

// The first of several faults counts, whichever kind it has.
func TestP1402First(t *testing.T) {
	at := func(n api.Node, at int) api.Node {
		n.At = at
		return n
	}
	missing, wrong := at(name("m", api.ArrayClass), 50), at(name("w", api.ArrayClass), 10)
	for i, c := range []struct {
		p    api.Program
		want api.Fault
	}{
		{program(define("w", prim(1)), expr(missing), expr(wrong)), api.Fault{Kind: api.ErrNotFound, At: 50, Name: "m"}},
		{program(define("w", prim(1)), expr(wrong), expr(missing)), api.Fault{Kind: api.ErrClass, At: 10, Name: "w"}},
		{program(define("w", prim(1)), expr(dyad(wrong, prim(1), missing))), api.Fault{Kind: api.ErrClass, At: 10, Name: "w"}},
		{program(define("w", prim(1)), expr(dyad(missing, prim(1), wrong))), api.Fault{Kind: api.ErrNotFound, At: 50, Name: "m"}},
		{program(define("w", prim(1)), expr(monad(lambda(guard(missing, wrong), expr(wrong)), wrong))), api.Fault{Kind: api.ErrNotFound, At: 50, Name: "m"}},
		{program(define("w", prim(1)), define("x", wrong), define("y", missing)), api.Fault{Kind: api.ErrClass, At: 10, Name: "w"}},
		// The errors of syntax.Right come before, wherever they are.
		{program(expr(missing), expr(prim(1))), api.Fault{Kind: api.ErrClass}},
		{program(expr(missing), api.Stmt{}), api.Fault{Kind: api.ErrClass}},
		{program(expr(missing), define("x", number(1)), define("x", number(2))), api.Fault{Kind: api.ErrClass}},
		{program(slices.Repeat([]api.Stmt{expr(missing)}, api.MaxStmts+1)...), api.Fault{Kind: api.ErrLong}},
		{program(slices.Repeat([]api.Stmt{{}}, api.MaxStmts+1)...), api.Fault{Kind: api.ErrLong}},
		{program(expr(missing), expr(tower(api.MaxDeep+1))), api.Fault{Kind: api.ErrDeep}},
		{program(expr(missing), expr(tower(api.MaxDeep))), api.Fault{Kind: api.ErrNotFound, At: 50, Name: "m"}},
		{program(slices.Repeat([]api.Stmt{expr(of(api.NStrand, api.ArrayClass, slices.Repeat([]api.Node{missing}, 999)...))}, 17)...), api.Fault{Kind: api.ErrLimit}},
		{program(slices.Repeat([]api.Stmt{expr(of(api.NStrand, api.ArrayClass, slices.Repeat([]api.Node{missing}, 999)...))}, 16)...), api.Fault{Kind: api.ErrNotFound, At: 50, Name: "m"}},
	} {
		if u, f := Program(c.p); !reflect.DeepEqual(f, c.want) || !isZero(u) {
			t.Errorf("Program %d = %s, %+v; want %+v", i, shown(u), f, c.want)
		}
		e := Right(api.Unit{Body: c.p.Body})
		if c.want.Name != "" && e != api.ErrClass || c.want.Name == "" && e != c.want.Kind {
			t.Errorf("Right of program %d = %d", i, e)
		}
	}
}

// tower returns a node of this depth.
func tower(depth int) api.Node {
	n := number(1)
	for range depth - 1 {
		n = monad(prim(api.PSub), n)
	}
	return n
}

// What a program has as slots and depths before makes no difference; everything else stays.
func TestP1402Fields(t *testing.T) {
	random := rand.New(rand.NewSource(3))
	for _, p := range programs(t, 500) {
		bodies(&p.Body, func(body *[]api.Stmt) {
			for i := range *body {
				s := &(*body)[i]
				s.At = random.Intn(99)
				if s.Kind == api.SDefine {
					s.Slot = random.Intn(99)
				}
			}
		})
		nodes(p.Body, func(n *api.Node) {
			if n.Kind != 0 {
				n.At, n.Depth, n.Slot, n.Slots = random.Intn(99), random.Intn(99), random.Intn(99), random.Intn(99)
			}
		})
		checkProgram(t, p)
		u, _ := Program(p)
		if again, f := Program(api.Program{Body: u.Body}); !isEqual(again, u) || !isZero(f) {
			t.Errorf("resolved again, %s is %s, %+v", shown(u), shown(again), f)
		}
	}
}

// small returns all bodies of up to two statements that can be made of these.
func small(statements []api.Stmt) [][]api.Stmt {
	list := [][]api.Stmt{nil}
	for _, one := range statements {
		list = append(list, []api.Stmt{one})
		for _, other := range statements {
			list = append(list, []api.Stmt{one, other})
		}
	}
	return list
}

// All small programs with two names of two classes in two levels of lambdas.
func TestP1402AllSmall(t *testing.T) {
	a, b, f := name("a", api.ArrayClass), name("b", api.ArrayClass), name("a", api.FunClass)
	statements := []api.Stmt{define("a", number(1)), define("a", prim(api.PAdd)), define("a", a), define("b", a), expr(a), expr(b), expr(monad(f, number(2)))}
	flat := len(statements)
	lambdas := func(inside []api.Stmt) {
		for _, body := range small(inside) {
			if len(body) > 0 && body[len(body)-1].Kind == api.SExpr {
				statements = append(statements, expr(monad(lambda(body...), a)), define("a", lambda(body...)))
			}
			if len(body) > 1 && body[0].Kind == api.SExpr && body[1].Kind == api.SExpr {
				statements = append(statements, expr(monad(lambda(guard(body[0].Node, body[1].Node), body[1]), number(3))))
			}
		}
	}
	lambdas(statements)
	shallow := len(statements)
	lambdas(statements[:flat+24])
	counts := map[api.Errno]int{}
	for _, before := range [][]api.Stmt{nil, {define("a", number(1))}, {define("b", number(2)), define("a", number(1))}, {define("a", prim(api.PAdd))}} {
		for _, one := range statements {
			counts[checkProgram(t, program(append(before, one)...))]++
		}
		for _, body := range small(statements[:shallow]) {
			counts[checkProgram(t, program(append(before, body...)...))]++
		}
		for _, body := range small(statements[:flat+12]) {
			for _, last := range statements[:flat] {
				counts[checkProgram(t, program(append(append(before, body...), last)...))]++
			}
		}
	}
	for _, e := range []api.Errno{api.OK, api.ErrNotFound, api.ErrClass} {
		if counts[e] < 1000 {
			t.Errorf("only %d programs have the error %d", counts[e], e)
		}
	}
}

func TestP1402Random(t *testing.T) {
	random := rand.New(rand.NewSource(4))
	counts := map[api.Errno]int{}
	for _, p := range programs(t, 4000) {
		for range 3 {
			counts[checkProgram(t, p)]++
			p = changed(random, p)
		}
	}
	for _, e := range []api.Errno{api.OK, api.ErrNotFound, api.ErrClass} {
		if counts[e] < 500 {
			t.Errorf("only %d programs have the error %d", counts[e], e)
		}
	}
}

// As many definitions as a body may have, as many lambdas around a name as there may be, and as many nodes.
func TestP1402Limits(t *testing.T) {
	var text, uses strings.Builder
	for i := range api.MaxStmts - 1 {
		text.WriteString("n" + strconv.Itoa(i) + "<-1;")
		uses.WriteString(" n" + strconv.Itoa(i))
	}
	u, f := Program(parse(t, text.String()+uses.String()))
	if !isZero(f) || u.Slots != api.MaxStmts-1 {
		t.Fatalf("Program of many definitions has %d slots: %+v", u.Slots, f)
	}
	for i, n := range u.Body[api.MaxStmts-1].Node.Kids {
		if n.Depth != 0 || n.Slot != i || u.Body[i].Slot != i {
			t.Errorf("the name %s has the depth %d and the slot %d", n.Text, n.Depth, n.Slot)
		}
	}
	deepest := api.MaxDeep - 1
	u, f = Program(parse(t, "b<-0;a<-1;"+strings.Repeat("f<-{", deepest)+"a"+strings.Repeat("};1", deepest)[:3*deepest-1]+"1"))
	if !isZero(f) {
		t.Fatalf("Program of nested lambdas: %+v", f)
	}
	n := u.Body[2].Node
	for range deepest - 1 {
		if n.Slots != 1 {
			t.Errorf("a lambda has %d slots", n.Slots)
		}
		n = n.Body[0].Node
	}
	if n = n.Body[0].Node; n.Text != "a" || n.Depth != deepest || n.Slot != 1 {
		t.Errorf("the name in the innermost lambda is %+v", n)
	}
	inTime(t, func() {
		most := strings.Repeat(strings.Repeat("n0 ", 999)+"n0;", 16)
		p := parse(t, "n0<-1;"+most[:len(most)-1])
		checkProgram(t, p)
		wide := parse(t, text.String()+strings.Repeat("{", 25)+strings.Repeat(uses.String()+";", 11)+"1"+strings.Repeat("}1", 25))
		u, f := Program(wide)
		if !isZero(f) || Right(u) != api.OK || !Same(u, u) {
			t.Errorf("Program of many names: %+v", f)
		}
	})
}

// P1403: Right.

// A resolved program that is changed in one place is not resolved, unless it is by chance.
func TestP1403Variants(t *testing.T) {
	list := resolved(t, 60)
	for _, s := range []string{"a <- 1; f <- {a + Y}; f 2", "a <- 1; b <- 2; {a <- 3; a : b; o <- {F a}; - o b} 4", "1; {2 : 'c'; \"text\" Y} 3"} {
		u, _ := Program(parse(t, s))
		list = append(list, u)
	}
	counts := map[api.Errno]int{}
	for _, u := range list {
		if checkRight(t, u) != api.OK {
			t.Errorf("Right(%s) is not OK", shown(u))
		}
		if len(fmt.Sprint(u)) > 4000 {
			continue
		}
		changed := plain(u)
		variants(&changed, func(path string) {
			e := checkRight(t, changed)
			counts[e]++
			field := path[strings.LastIndex(path, ".")+1:]
			if e == api.OK && slices.Contains([]string{"Depth", "Slot", "Slots", "Class"}, field) {
				t.Errorf("Right(%s) is OK with another %s", shown(changed), path)
			}
		})
	}
	if counts[api.OK] < 1000 || counts[api.ErrClass] < 10000 {
		t.Errorf("the errors are %v", counts)
	}
}

// Each number that resolution determines, changed in a program whose other numbers are right.
func TestP1403Numbers(t *testing.T) {
	u, _ := Program(parse(t, "a <- 1; b <- 2; f <- {c <- a; {d <- b; c + d} Y}; f b"))
	if e := Right(u); e != api.OK {
		t.Fatalf("Right = %d", e)
	}
	outer := func(u *api.Unit) *api.Node { return &u.Body[2].Node }
	inner := func(u *api.Unit) *api.Node { return &outer(u).Body[1].Node.Kids[0] }
	for i, number := range []func(u *api.Unit) *int{
		func(u *api.Unit) *int { return &u.Slots },
		func(u *api.Unit) *int { return &u.Body[0].Slot },
		func(u *api.Unit) *int { return &u.Body[1].Slot },
		func(u *api.Unit) *int { return &u.Body[2].Slot },
		func(u *api.Unit) *int { return &u.Body[3].Slot },
		func(u *api.Unit) *int { return &u.Body[0].Node.Slot },
		func(u *api.Unit) *int { return &u.Body[0].Node.Slots },
		func(u *api.Unit) *int { return &u.Body[0].Node.Depth },
		func(u *api.Unit) *int { return &outer(u).Slots },
		func(u *api.Unit) *int { return &outer(u).Slot },
		func(u *api.Unit) *int { return &outer(u).Depth },
		func(u *api.Unit) *int { return &outer(u).Body[0].Slot },
		func(u *api.Unit) *int { return &outer(u).Body[0].Node.Depth },
		func(u *api.Unit) *int { return &outer(u).Body[0].Node.Slot },
		func(u *api.Unit) *int { return &inner(u).Slots },
		func(u *api.Unit) *int { return &inner(u).Body[0].Slot },
		func(u *api.Unit) *int { return &inner(u).Body[0].Node.Depth },
		func(u *api.Unit) *int { return &inner(u).Body[0].Node.Slot },
		func(u *api.Unit) *int { return &inner(u).Body[1].Node.Kids[0].Slot },
		func(u *api.Unit) *int { return &inner(u).Body[1].Node.Kids[1].Depth },
		func(u *api.Unit) *int { return &inner(u).Body[1].Node.Kids[2].Slot },
		func(u *api.Unit) *int { return &u.Body[3].Node.Kids[0].Slot },
		func(u *api.Unit) *int { return &u.Body[3].Node.Kids[1].Slot },
		func(u *api.Unit) *int { return &u.Body[3].Node.Kids[1].Depth },
		func(u *api.Unit) *int { return &u.Body[3].Node.Depth },
	} {
		for _, by := range []int{-2, -1, 1, 2, 1 << 32} {
			v := plain(u)
			*number(&v) += by
			if e := Right(v); e != api.ErrClass {
				t.Errorf("Right with %d added to number %d = %d", by, i, e)
			}
		}
	}
}

// The errors of syntax.Right, of names without a definition, and of units that are not resolved.
func TestP1403Errors(t *testing.T) {
	long := slices.Repeat([]api.Stmt{expr(number(1))}, api.MaxStmts+1)
	wide := slices.Repeat([]api.Stmt{expr(of(api.NStrand, api.ArrayClass, slices.Repeat([]api.Node{number(1)}, 999)...))}, 17)
	for i, c := range []struct {
		u    api.Unit
		want api.Errno
	}{
		{api.Unit{}, api.OK},
		{api.Unit{Slots: 1}, api.ErrClass},
		{api.Unit{Slots: -1}, api.ErrClass},
		{api.Unit{Body: []api.Stmt{expr(number(1))}}, api.OK},
		{api.Unit{Body: long[1:]}, api.OK},
		{api.Unit{Body: long}, api.ErrLong},
		{api.Unit{Body: long, Slots: 5}, api.ErrLong},
		{api.Unit{Body: wide[1:]}, api.OK},
		{api.Unit{Body: wide, Slots: 5}, api.ErrLimit},
		{api.Unit{Body: []api.Stmt{expr(tower(api.MaxDeep))}}, api.OK},
		{api.Unit{Body: []api.Stmt{expr(tower(api.MaxDeep))}, Slots: 1}, api.ErrClass},
		{api.Unit{Body: []api.Stmt{expr(tower(api.MaxDeep + 1))}, Slots: 1}, api.ErrDeep},
		{api.Unit{Body: []api.Stmt{expr(name("a", api.ArrayClass))}}, api.ErrClass},
		{api.Unit{Body: []api.Stmt{define("a", prim(1)), expr(name("a", api.ArrayClass))}, Slots: 1}, api.ErrClass},
		{api.Unit{Body: []api.Stmt{define("a", number(1)), expr(name("a", api.ArrayClass))}, Slots: 1}, api.OK},
		{api.Unit{Body: []api.Stmt{define("a", number(1)), expr(name("a", api.ArrayClass))}}, api.ErrClass},
		{api.Unit{Body: []api.Stmt{define("a", number(1)), define("b", number(1)), expr(name("a", api.ArrayClass))}, Slots: 2}, api.ErrClass},
		{api.Unit{Body: []api.Stmt{{}}}, api.ErrClass},
		{api.Unit{Body: []api.Stmt{{Kind: api.SExpr, Node: number(1), At: -1}}}, api.ErrClass},
	} {
		if e := Right(c.u); e != c.want {
			t.Errorf("Right of unit %d = %d; want %d", i, e, c.want)
		}
		checkRight(t, c.u)
	}
}

// A program is right before resolution only if nothing has to be done.
func TestP1403Unresolved(t *testing.T) {
	counts := map[api.Errno]int{}
	for _, p := range programs(t, 1000) {
		counts[checkRight(t, api.Unit{Body: p.Body})]++
		u, _ := Program(p)
		counts[checkRight(t, api.Unit{Body: p.Body, Slots: u.Slots})]++
		counts[checkRight(t, api.Unit{Body: u.Body, Slots: u.Slots + 1})]++
	}
	if counts[api.OK] < 100 || counts[api.ErrClass] < 1000 {
		t.Errorf("the errors are %v", counts)
	}
}

// P1404: Same.

// checkSame checks Same for a and b in both orders.
func checkSame(t *testing.T, a, b api.Unit, want bool, what string) {
	t.Helper()
	if Same(a, b) != want || Same(b, a) != want {
		t.Errorf("%s: Same(%s, %s) = %t, %t; want %t", what, shown(a), shown(b), Same(a, b), Same(b, a), want)
	}
}

// full returns a unit in which no field is zero.
func full() api.Unit {
	value := api.Array{Kind: 9, Shape: []int{-3, 4}, Nums: []int{5}, Items: []api.Array{{Kind: 8, Nums: []int{1, 2}}}}
	node := api.Node{Kind: 1, At: 2, Class: 3, Text: "t", Prim: 4, Op: 5, Value: value, Depth: 6, Slot: 7, Slots: 8}
	inner := node
	inner.Kids = []api.Node{node}
	statement := api.Stmt{Kind: 3, At: 4, Name: "n", Slot: 5, Test: inner, Node: node}
	other := api.Stmt{Kind: 1, At: 4, Name: "m", Slot: 6, Test: node, Node: node}
	node.Kids, node.Body = []api.Node{inner, inner}, []api.Stmt{statement, other}
	return api.Unit{Body: []api.Stmt{statement, {Kind: 2, At: 9, Name: "o", Slot: 8, Test: node, Node: node}}, Slots: 4}
}

func TestP1404EachField(t *testing.T) {
	list := append(resolved(t, 40), full(), api.Unit{}, api.Unit{Slots: -1, Body: []api.Stmt{{}}})
	fields := map[string]int{}
	for _, u := range list {
		if len(fmt.Sprint(u)) > 15000 {
			continue
		}
		checkSame(t, u, plain(u), true, "a copy")
		other := plain(u)
		variants(&other, func(path string) {
			field := path[strings.LastIndex(path, ".")+1:]
			fields[strings.TrimRight(field, "[0123456789]")]++
			checkSame(t, u, other, field == "At", path)
		})
		checkSame(t, u, other, true, "changed back")
	}
	for _, field := range strings.Fields("Body Slots Kind At Name Slot Test Node Class Text Prim Op Value Kids Depth Shape Nums Items") {
		if fields[field] == 0 && field != "Test" && field != "Node" && field != "Value" {
			t.Errorf("the field %s was not changed", field)
		}
	}
}

// Units that have the same numbers in other places, or differ in several places.
func TestP1404Pairs(t *testing.T) {
	var list []api.Unit
	for _, s := range []string{"", "1", "2", "1; 1", "1; 2", "'a'", `"a"`, "a <- 1", "b <- 1", "a <- 1; a", "a <- 1; b <- 1; a", "a <- 1; b <- 1; b", "{Y} 1", "{X} 1", "{1 : 2; 3} 4", "{2 : 1; 3} 4", "{1; 2; 3} 4", "- 1", "1 - 1", "1 1", "{a <- 1; a} 1", "{{Y} 1} 1"} {
		u, f := Program(parse(t, s))
		if !isZero(f) {
			t.Fatalf("Program of %q: %+v", s, f)
		}
		list = append(list, u)
	}
	for i, u := range list {
		for j, v := range list {
			checkSame(t, u, v, i == j, "a pair")
		}
	}
	for _, u := range resolved(t, 200) {
		moved := plain(u)
		bodies(&moved.Body, func(body *[]api.Stmt) {
			for i := range *body {
				(*body)[i].At = -i
			}
		})
		nodes(moved.Body, func(n *api.Node) { n.At = math.MinInt + n.At })
		checkSame(t, u, moved, true, "offsets")
	}
}

// P1405: Free.

// lastNode returns the node of the last statement of s behind definitions of names of all classes.
func lastNode(t *testing.T, s string) api.Node {
	t.Helper()
	body := parse(t, "a <- 1; b <- 2; c <- 3; aa <- 4; a1 <- 5; f <- +; g <- -; o <- {F Y}; p <- {F G Y};"+s).Body
	return body[len(body)-1].Node
}

func TestP1405Free(t *testing.T) {
	for s, want := range map[string]string{
		"1":                              "",
		"a":                              "a",
		"1 + arg":                        "",
		"b a c":                          "a b c",
		"b a b a":                        "a b",
		"a1 aa a b":                      "a a1 aa b",
		"a f b":                          "a b f",
		"g f a":                          "a f g",
		"f o 1":                          "f o",
		"f p g 1":                        "f g p",
		"+ rank a b":                     "a b",
		"d <- a f g":                     "a f g",
		"d <- f (g f) g":                 "f g",
		"{Y} 1":                          "",
		"{a} 1":                          "a",
		"{a <- 1; a} 1":                  "",
		"{a <- 1; a} a":                  "a",
		"{a <- a; a} 1":                  "a",
		"{b <- a; b} 1":                  "a",
		"{a; a <- 1; a} 1":               "a",
		"{a <- 1; 2} 1":                  "",
		"{a : b; c} 1":                   "a b c",
		"{a <- 1; a : b; c} 1":           "b c",
		"{a <- 1; b : a; c} 1":           "b c",
		"{a : b; a <- 1; b <- 2; a b} 1": "a b",
		"{a <- 1; {a b} 1} 1":            "b",
		"{{a <- 1; a} b; a} 1":           "a b",
		"{{a <- 1; a} 1 : a; c} 1":       "a c",
		"{d <- {a <- 1; a b} 1; b <- 1; d b a} 1":   "a b",
		"{a <- 1; {b <- 2; {c <- 3; a b c} 1} 1} 1": "",
		"{c <- 1; {b <- 2; {c <- 3; a b c} 1} 1} 1": "a",
		"{{{a} 1} 1} {{{b} 1} 1} c":                 "a b c",
		"d <- {f <- {f Y}; f Y}":                    "f",
		"d <- {F a}":                                "a",
		"d <- {F G b}":                              "b",
		"d <- {o <- {F a}; a <- 1; f o a}":          "a f",
		"+ {F f Y} a":                               "a f",
		"(a b) (c (a))":                             "a b c",
	} {
		n := lastNode(t, s)
		if got := Free(n); !slices.Equal(got, strings.Fields(want)) {
			t.Errorf("Free of %q = %q; want %s", s, got, want)
		}
		checkFree(t, n)
	}
}

func TestP1405Random(t *testing.T) {
	random := rand.New(rand.NewSource(5))
	counts := map[int]int{}
	for _, p := range programs(t, 1500) {
		for range 3 {
			checkFree(t, lambda(p.Body...))
			counts[len(Free(lambda(p.Body...)))]++
			p = changed(random, changed(random, changed(random, p)))
		}
	}
	if counts[0] < 100 || counts[1] < 100 || counts[2] < 100 {
		t.Errorf("the counts of the free names are %v", counts)
	}
}

// A resolved program as a lambda has no free names, and one without a definition has that name.
func TestP1405Programs(t *testing.T) {
	for _, p := range programs(t, 300) {
		if list := Free(lambda(p.Body...)); len(list) != 0 {
			t.Errorf("Free of %s = %q", shown(p), list)
		}
		for i, s := range p.Body {
			if s.Kind != api.SDefine {
				continue
			}
			u, f := Program(program(slices.Delete(slices.Clone(p.Body), i, i+1)...))
			list := Free(lambda(slices.Delete(slices.Clone(p.Body), i, i+1)...))
			if f.Kind == api.ErrNotFound && !slices.Equal(list, []string{s.Name}) || f.Kind == api.OK && len(list) != 0 {
				t.Errorf("without %s, Free of %s = %q; Program = %s, %+v", s.Name, shown(p), list, shown(u), f)
			}
		}
	}
}

func TestP1405Deep(t *testing.T) {
	wrap := map[string]func(n api.Node) api.Node{
		"right argument": func(n api.Node) api.Node { return monad(prim(api.PSub), n) },
		"left argument":  func(n api.Node) api.Node { return dyad(n, prim(api.PSub), number(1)) },
		"definition":     func(n api.Node) api.Node { return lambda(define("b", n), expr(number(1))) },
		"expression":     func(n api.Node) api.Node { return lambda(expr(n)) },
		"guard":          func(n api.Node) api.Node { return lambda(guard(number(1), n), expr(number(1))) },
		"test":           func(n api.Node) api.Node { return lambda(guard(n, number(1)), expr(number(1))) },
		"operand":        func(n api.Node) api.Node { return of(api.NDerive1, api.FunClass, name("a", 3), n) },
	}
	for place, around := range wrap {
		n := name("a", api.ArrayClass)
		for deep := 1; deep < api.MaxDeep+10; deep++ {
			want := []string{"a"}
			if deep > api.MaxDeep {
				want = nil
			}
			if got := Free(n); !slices.Equal(got, want) || deep > api.MaxDeep && got != nil {
				t.Errorf("Free of a %s at depth %d = %q", place, deep, got)
			}
			n = around(n)
		}
	}
	// Only the first kid is too deep, or only the last one.
	for _, n := range []api.Node{dyad(tower(api.MaxDeep), prim(1), name("a", 1)), dyad(name("a", 1), prim(1), tower(api.MaxDeep))} {
		if got := Free(n); got != nil {
			t.Errorf("Free of a tree with a deep part = %q", got)
		}
	}
	if got := Free(dyad(tower(api.MaxDeep-1), prim(1), name("a", 1))); !slices.Equal(got, []string{"a"}) {
		t.Errorf("Free of a tree of the greatest depth = %q", got)
	}
	// The Test of a statement that is not a guard does not belong to the body.
	surplus := lambda(api.Stmt{Kind: api.SExpr, Node: name("a", 1), Test: dyad(name("b", 1), prim(1), tower(api.MaxDeep))})
	if got := Free(surplus); !slices.Equal(got, []string{"a"}) {
		t.Errorf("Free with the Test of an expression = %q", got)
	}
}

// Free does not need valid nodes, and there is no limit of their number.
func TestP1405Invalid(t *testing.T) {
	var kids []api.Node
	for i := range 2 * api.MaxNodes {
		kids = append(kids, name("n"+strconv.Itoa(i%5000), api.ArrayClass))
	}
	inTime(t, func() {
		list := Free(of(api.NStrand, api.ArrayClass, kids...))
		if len(list) != 5000 || !slices.IsSorted(list) {
			t.Errorf("Free of a long strand has %d names", len(list))
		}
	})
	for i, c := range []struct {
		n    api.Node
		want string
	}{
		{api.Node{}, ""},
		{api.Node{Kind: 99, Kids: []api.Node{name("a", 0)}}, "a"},
		{of(api.NName, 0), " "},
		{lambda(), ""},
		{lambda(define("a", number(1))), ""},
		{lambda(define("a", number(1)), define("a", name("a", 1)), expr(name("a", 2))), ""},
		{lambda(define("a", number(1)), guard(name("a", 1), name("b", 1))), "b"},
		{lambda(api.Stmt{Kind: api.SExpr, Name: "a", Node: number(1)}, expr(name("a", 1))), "a"},
		{lambda(api.Stmt{Kind: api.SGuard, Name: "a", Node: number(1)}, expr(name("a", 1))), "a"},
		{of(api.NPrim, api.FunClass, name("b", 1), name("a", 1), name("b", 1)), "a b"},
	} {
		want := strings.Fields(c.want)
		if c.want == " " {
			want = []string{""}
		}
		if got := Free(c.n); !slices.Equal(got, want) {
			t.Errorf("Free of node %d = %q; want %q", i, got, want)
		}
		checkFree(t, c.n)
	}
}

// P1406: the programs of the parser.

func TestP1406Random(t *testing.T) {
	for _, s := range texts(5000) {
		p := parse(t, s)
		if e := checkProgram(t, p); e != api.OK {
			t.Errorf("Program of %s = %d", shown(s), e)
		}
	}
}

// Every sequence of these parts that is a program.
func TestP1406AllSequences(t *testing.T) {
	parts, count := []string{"a", "f", "o", "1", "-", "{", "}", "<-", ";", ":"}, 0
	var extend func(s string, length int)
	extend = func(s string, length int) {
		if p, f := parser.Parse(s); f.Kind == api.OK {
			count++
			if e := checkProgram(t, p); e != api.OK {
				t.Errorf("Program of %s = %d", shown(s), e)
			}
		}
		if length > 0 {
			for _, part := range parts {
				extend(s+" "+part, length-1)
			}
		}
	}
	extend("a <- 1; f <- +; o <- {F Y};", 5)
	extend("a <- 1; {", 5)
	extend("{ a <- 1; {", 5)
	if count < 2000 {
		t.Errorf("only %d sequences are programs", count)
	}
}

// The parser refuses what resolution would refuse.
func TestP1406Refused(t *testing.T) {
	for s, at := range map[string]int{"a": 0, "a <- a": 5, "{a} 1; a <- 1": 1, "{a <- 1; a} a": 12, "f <- {f Y}": 6, "{a <- 1; a} 1; a": 15, "{1 : a; a <- 1; a} 1": 5} {
		if _, f := parser.Parse(s); f.Kind != api.ErrNotFound || f.At != at {
			t.Errorf("Parse(%q) = %+v", s, f)
		}
	}
}

func TestExamples(t *testing.T) {
	u, f := Program(parse(t, "a <- 1; f <- {a + Y}; f 2"))
	if !isZero(f) || u.Slots != 2 {
		t.Fatalf("Program has %d slots: %+v", u.Slots, f)
	}
	if a := u.Body[1].Node.Body[0].Node.Kids[1]; a.Text != "a" || a.Depth != 1 || a.Slot != 0 {
		t.Errorf("the name a is %+v", a)
	}
	if f := u.Body[2].Node.Kids[0]; f.Text != "f" || f.Depth != 0 || f.Slot != 1 {
		t.Errorf("the name f is %+v", f)
	}
}
