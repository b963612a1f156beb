package names

import (
	"fmt"
	"go/parser"
	"go/token"
	"math"
	"math/rand"
	"regexp"
	"slices"
	"strings"
	"testing"
	"unicode"

	"arraylang/api"
)

// valid matches the valid names, as the chapter defines them.
var valid = regexp.MustCompile(`\A[a-z][a-z0-9]{0,31}\z`)

// classes are all classes.
var classes = []api.Class{api.ArrayClass, api.FunClass, api.Op1Class, api.Op2Class}

// longest is a valid name of the greatest length.
var longest = "z" + strings.Repeat("0", api.MaxName-1)

// strangers are numbers that are not classes, among them some that are one modulo a power of two.
func strangers() []api.Class {
	list := []api.Class{100, 255, 256, 257, 260, 1<<16 + 1, 1<<32 + 1, 1<<32 + 4, -1<<32 + 2, math.MinInt32, math.MaxInt32, math.MinInt, math.MinInt + 1, math.MaxInt}
	for c := range api.Class(70) {
		list = append(list, -c, c+5)
	}
	return list
}

// goodNames are valid names, among them reserved words, which are names as far as the chapter is concerned.
func goodNames() []string {
	list := strings.Fields("a z m a0 a9 z9 a00 aa az za zz ab1 x y f g avg twice a1b2c3 e1 max self arg iota each nil map true abcdefghijklmnopqrstuvwxyz a0123456789")
	return append(list, longest, strings.Repeat("a", api.MaxName), strings.Repeat("z", api.MaxName-1), "a"+strings.Repeat("9", api.MaxName-1))
}

// badNames are no valid names: empty, too long, with a wrong beginning, or with a wrong byte somewhere.
func badNames() []string {
	list := []string{
		"", " ", "A", "Z", "X", "Y", "F", "G", "0", "9", "1a", "_", "_a", "a_", "a_b", "aB", "Ab", "a b", " a", "a ", "a\n", "\na", "a\x00", "\x00a", "a.b", "a-b", "a'", "+", "<-", "a<-",
		"é", "aé", "éa", "ß", "aß", "ａ", "aａ", "a１", "a٣", "a²", "aª", "aı", "\xff", "a\xff", "a\xc3", "a\x80", "a\xed\xa0\x80", "ﬀ", "aⅰ", "a\u0301", "a\u200b", "а",
		longest + "0", longest + " ", longest[1:], "a" + longest, strings.Repeat("a", api.MaxName+1), strings.Repeat("a", api.MaxName+2), strings.Repeat("a", 255), strings.Repeat("a", 256), strings.Repeat("a", 257), strings.Repeat("a", 288),
		strings.Repeat("a", 1<<16), strings.Repeat("a", 1<<16+1), strings.Repeat("a", 1<<20), strings.Repeat("A", api.MaxName), strings.Repeat("é", 16), strings.Repeat("é", 17), strings.Repeat(" ", 1<<16),
	}
	return list
}

// one is a definition of a scope of the model.
type one struct {
	name  string
	class api.Class
}

// model is a scope as the chapter describes it: a list of definitions, and an outer scope.
type model struct {
	outer *model
	list  []one
}

func (m *model) open() *model { return &model{outer: m} }

func (m *model) define(name string, c api.Class) api.Errno {
	switch {
	case !slices.Contains(classes, c):
		return api.ErrArg
	case !valid.MatchString(name):
		return api.ErrName
	case slices.Contains(m.names(), name):
		return api.ErrDuplicate
	}
	m.list = append(m.list, one{name, c})
	return api.OK
}

func (m *model) find(name string) (api.Class, bool) {
	for _, d := range m.list {
		if d.name == name {
			return d.class, true
		}
	}
	if m.outer == nil {
		return 0, false
	}
	return m.outer.find(name)
}

func (m *model) depth() int {
	if m.outer == nil {
		return 0
	}
	return 1 + m.outer.depth()
}

func (m *model) names() []string {
	var list []string
	for _, d := range m.list {
		list = append(list, d.name)
	}
	return list
}

// world is scopes beside their models, in the order in which they were opened, and what was done with them.
type world struct {
	t      *testing.T
	scopes []*Scope
	models []*model
	log    []string
}

func newWorld(t *testing.T) *world {
	return &world{t: t, scopes: []*Scope{New()}, models: []*model{{}}}
}

func (w *world) open(i int) {
	w.log = append(w.log, fmt.Sprintf("%d: open", i))
	w.scopes, w.models = append(w.scopes, w.scopes[i].Open()), append(w.models, w.models[i].open())
}

func (w *world) define(i int, name string, c api.Class) {
	w.log = append(w.log, fmt.Sprintf("%d: %.40q is %d", i, name, c))
	if got, want := w.scopes[i].Define(name, c), w.models[i].define(name, c); got != want {
		w.t.Fatalf("%q: Define returns %d; want %d", w.log, got, want)
	}
}

// check compares all scopes with their models; names are the names that are looked up.
func (w *world) check(names ...string) {
	w.t.Helper()
	for i, s := range w.scopes {
		m := w.models[i]
		if got, want := s.Depth(), m.depth(); got != want {
			w.t.Fatalf("%q: Depth of scope %d = %d; want %d", w.log, i, got, want)
		}
		if got, want := s.Names(), m.names(); !slices.Equal(got, want) {
			w.t.Fatalf("%q: Names of scope %d = %.40q; want %.40q", w.log, i, got, want)
		}
		for _, name := range names {
			c, ok := s.Find(name)
			if want, found := m.find(name); c != want || ok != found {
				w.t.Fatalf("%q: Find(%.40q) in scope %d = %d, %t; want %d, %t", w.log, name, i, c, ok, want, found)
			}
		}
	}
}

func checkDefine(t *testing.T, s *Scope, name string, c api.Class, want api.Errno) {
	t.Helper()
	if got := s.Define(name, c); got != want {
		t.Errorf("Define(%.40q, %d) = %d; want %d", name, c, got, want)
	}
}

func checkFind(t *testing.T, s *Scope, name string, want api.Class) {
	t.Helper()
	if c, ok := s.Find(name); c != want || ok != (want != 0) {
		t.Errorf("Find(%.40q) = %d, %t; want %d, %t", name, c, ok, want, want != 0)
	}
}

func checkNames(t *testing.T, s *Scope, want ...string) {
	t.Helper()
	if got := s.Names(); !slices.Equal(got, want) {
		t.Errorf("Names = %.40q; want %.40q", got, want)
	}
}

func checkDepth(t *testing.T, s *Scope, want int) {
	t.Helper()
	if got := s.Depth(); got != want {
		t.Errorf("Depth = %d; want %d", got, want)
	}
}

func TestP1101Nil(t *testing.T) {
	var s *Scope
	for range 2 {
		if s.Open() != nil || s.Open().Open() != nil {
			t.Error("Open of a nil scope is not nil")
		}
		checkDepth(t, s, 0)
		checkNames(t, s)
		for _, name := range append(goodNames(), badNames()...) {
			for _, c := range append(strangers(), classes...) {
				checkDefine(t, s, name, c, api.ErrArg)
			}
			checkFind(t, s, name, 0)
		}
	}
}

// A Scope that New has not made is empty, and has no outer scope.
func TestP1101ZeroScope(t *testing.T) {
	checkFind(t, &Scope{}, "a", 0)
	checkNames(t, &Scope{})
	checkDepth(t, &Scope{}, 0)
	checkDefine(t, &Scope{}, "A", api.FunClass, api.ErrName)
	checkDefine(t, &Scope{}, "a", 0, api.ErrArg)
	var s Scope
	inner := s.Open()
	checkDefine(t, &s, "b", api.FunClass, api.OK)
	checkDefine(t, &s, "b", api.FunClass, api.ErrDuplicate)
	checkDefine(t, &s, "a", api.Op1Class, api.OK)
	checkNames(t, &s, "b", "a")
	checkDefine(t, inner, "b", api.ArrayClass, api.OK)
	checkFind(t, inner, "a", api.Op1Class)
	checkFind(t, inner, "b", api.ArrayClass)
	checkFind(t, &s, "b", api.FunClass)
	checkDepth(t, inner, 1)
}

// Calls in other scopes, and calls that only ask, do not change what a scope answers.
func TestP1101SameAnswers(t *testing.T) {
	w := newWorld(t)
	w.define(0, "a", api.Op2Class)
	w.open(0)
	w.define(1, "b", api.FunClass)
	for range 100 {
		other := New()
		checkDefine(t, other, "a", api.ArrayClass, api.OK)
		checkDefine(t, other.Open(), "c", api.ArrayClass, api.OK)
		w.scopes[0].Open()
		checkDefine(t, w.scopes[1].Open(), "c", api.ArrayClass, api.OK)
		w.check("a", "b", "c", "")
	}
}

func TestImportsOnlyAPI(t *testing.T) {
	file, err := parser.ParseFile(token.NewFileSet(), "names.go", nil, parser.ImportsOnly)
	if err != nil {
		t.Fatal(err)
	}
	if len(file.Imports) != 1 || file.Imports[0].Path.Value != `"arraylang/api"` {
		t.Error("the package must import only api")
	}
}

func TestP1102New(t *testing.T) {
	s, other := New(), New()
	if s == nil || s == other {
		t.Fatal("New does not return a new scope")
	}
	checkDepth(t, s, 0)
	checkNames(t, s)
	checkFind(t, s, "a", 0)
	checkDefine(t, s, "a", api.FunClass, api.OK)
	checkFind(t, other, "a", 0)
	checkNames(t, other)
	checkFind(t, New(), "a", 0)
}

func TestP1102Open(t *testing.T) {
	s := New()
	checkDefine(t, s, "a", api.FunClass, api.OK)
	first, second := s.Open(), s.Open()
	if first == nil || first == s || first == second {
		t.Fatal("Open does not return a new scope")
	}
	for _, inner := range []*Scope{first, second, first.Open()} {
		checkNames(t, inner)
		checkFind(t, inner, "a", api.FunClass)
		checkFind(t, inner, "b", 0)
	}
	checkDepth(t, s, 0)
	checkDepth(t, first, 1)
	checkDepth(t, second, 1)
	checkNames(t, s, "a")
}

func TestP1102Depth(t *testing.T) {
	const most = 1 << 16
	scopes := []*Scope{New()}
	for i := range most {
		scopes = append(scopes, scopes[i].Open())
	}
	checkDefine(t, scopes[0], "a", api.Op2Class, api.OK)
	for i, s := range scopes {
		if s.Depth() != i {
			t.Fatalf("Depth of a scope within %d others = %d", i, s.Depth())
		}
	}
	checkDepth(t, scopes[100].Open(), 101)
	checkFind(t, scopes[most], "a", api.Op2Class)
	checkFind(t, scopes[most], "b", 0)
	checkDefine(t, scopes[most/2], "a", api.Op1Class, api.OK)
	checkFind(t, scopes[most], "a", api.Op1Class)
	checkFind(t, scopes[most/2-1], "a", api.Op2Class)
}

func TestP1103Classes(t *testing.T) {
	s := New()
	for i, c := range classes {
		if int(c) != i+1 {
			t.Fatalf("class %d is the number %d", i, c)
		}
		name := string(rune('a' + i))
		checkDefine(t, s, name, c, api.OK)
		checkFind(t, s, name, c)
	}
	for _, c := range strangers() {
		checkDefine(t, s, "x", c, api.ErrArg)
		checkFind(t, s, "x", 0)
	}
	checkNames(t, s, "a", "b", "c", "d")
}

func TestP1103Names(t *testing.T) {
	for _, c := range classes {
		s := New()
		for _, name := range goodNames() {
			checkDefine(t, s, name, c, api.OK)
			checkFind(t, s, name, c)
		}
		for _, name := range badNames() {
			checkDefine(t, s, name, c, api.ErrName)
			checkFind(t, s, name, 0)
		}
		checkNames(t, s, goodNames()...)
	}
}

// checkName checks that the name can be defined just if it matches the chapter's definition.
func checkName(t *testing.T, name string) {
	t.Helper()
	want := api.ErrName
	if valid.MatchString(name) {
		want = api.OK
	}
	checkDefine(t, New(), name, api.FunClass, want)
}

// Names of one to three bytes, a letter or a digit beside all kinds of other bytes.
func TestP1103ShortNames(t *testing.T) {
	telling := []byte("azAZ09_`{/:@[ \n\x00\x7f\x80\xff")
	for a := range 256 {
		checkName(t, string([]byte{byte(a)}))
		for b := range 256 {
			checkName(t, string([]byte{byte(a), byte(b)}))
			for _, c := range telling {
				checkName(t, string([]byte{byte(a), byte(b), c}))
			}
		}
	}
}

// Each byte at each place of names of all lengths around the greatest.
func TestP1103LongNames(t *testing.T) {
	for size := 1; size <= api.MaxName+3; size++ {
		for at := range size {
			for b := range 256 {
				name := []byte(strings.Repeat("q", size))
				name[at] = byte(b)
				checkName(t, string(name))
			}
		}
	}
	for size := range 600 {
		checkName(t, strings.Repeat("a", size))
		checkName(t, "a"+strings.Repeat("1", size))
		checkName(t, strings.Repeat("1", size))
	}
}

// Letters and digits of other alphabets are neither.
func TestP1103Characters(t *testing.T) {
	for r := range rune(unicode.MaxRune + 1) {
		if s := string(r); r > 127 {
			checkName(t, s)
			checkName(t, "a"+s)
		}
	}
}

func TestP1103Order(t *testing.T) {
	s := New()
	checkDefine(t, s, "a", api.ArrayClass, api.OK)
	for _, c := range strangers() {
		checkDefine(t, s, "a", c, api.ErrArg)
		checkDefine(t, s, "A", c, api.ErrArg)
		checkDefine(t, s, "", c, api.ErrArg)
		checkDefine(t, s, longest+"0", c, api.ErrArg)
	}
	checkNames(t, s, "a")
	checkFind(t, s, "a", api.ArrayClass)
}

func TestP1103Duplicate(t *testing.T) {
	for _, name := range goodNames() {
		for _, c := range classes {
			s := New()
			checkDefine(t, s, name, c, api.OK)
			for _, again := range classes {
				checkDefine(t, s, name, again, api.ErrDuplicate)
				checkFind(t, s, name, c)
				checkNames(t, s, name)
			}
		}
	}
}

// A name that was refused can still be defined.
func TestP1103AfterErrors(t *testing.T) {
	s := New()
	checkDefine(t, s, "b", 0, api.ErrArg)
	checkDefine(t, s, "b", 5, api.ErrArg)
	checkDefine(t, s, "a", api.Op1Class, api.OK)
	checkDefine(t, s, "B", api.Op1Class, api.ErrName)
	checkDefine(t, s, "a", api.Op2Class, api.ErrDuplicate)
	checkDefine(t, s, "b", api.Op2Class, api.OK)
	checkNames(t, s, "a", "b")
	checkFind(t, s, "b", api.Op2Class)
}

func TestP1103Hiding(t *testing.T) {
	for _, c := range classes {
		for _, d := range classes {
			outer := New()
			checkDefine(t, outer, "a", c, api.OK)
			middle := outer.Open()
			inner := middle.Open()
			checkDefine(t, inner, "a", d, api.OK)
			checkFind(t, inner, "a", d)
			checkFind(t, middle, "a", c)
			checkDefine(t, inner, "a", c, api.ErrDuplicate)
			checkDefine(t, outer, "a", d, api.ErrDuplicate)
			checkDefine(t, middle, "a", d, api.OK)
			checkFind(t, middle, "a", d)
			checkFind(t, outer, "a", c)
		}
	}
}

func TestExamples(t *testing.T) {
	s := New()
	checkDefine(t, s, "a", api.ArrayClass, api.OK)
	inner := s.Open()
	checkFind(t, inner, "a", api.ArrayClass)
	checkDefine(t, inner, "a", api.FunClass, api.OK)
	checkFind(t, inner, "a", api.FunClass)
	checkFind(t, s, "a", api.ArrayClass)
	checkDefine(t, s, "a", api.FunClass, api.ErrDuplicate)
	checkDefine(t, s, "A", api.FunClass, api.ErrName)
}

// Find sees what an outer scope defines after the inner one was opened, until the inner one hides it.
func TestP1104Time(t *testing.T) {
	outer := New()
	middle := outer.Open()
	inner := middle.Open()
	checkFind(t, inner, "a", 0)
	checkDefine(t, outer, "a", api.ArrayClass, api.OK)
	checkFind(t, inner, "a", api.ArrayClass)
	checkFind(t, middle, "a", api.ArrayClass)
	checkDefine(t, middle, "a", api.FunClass, api.OK)
	checkFind(t, inner, "a", api.FunClass)
	checkFind(t, middle, "a", api.FunClass)
	checkFind(t, outer, "a", api.ArrayClass)
	checkDefine(t, inner, "a", api.Op1Class, api.OK)
	checkFind(t, inner, "a", api.Op1Class)
	checkFind(t, middle, "a", api.FunClass)
}

func TestP1104NotFound(t *testing.T) {
	s := New()
	for _, name := range goodNames() {
		checkDefine(t, s, name, api.FunClass, api.OK)
	}
	inner := s.Open()
	for _, name := range append(badNames(), "b", "aaa", "a01", "sel", "selfs", longest[:31], longest[:31]+"1") {
		checkFind(t, s, name, 0)
		checkFind(t, inner, name, 0)
	}
	for _, name := range goodNames() {
		checkFind(t, inner, name, api.FunClass)
		checkFind(t, New(), name, 0)
	}
}

func TestP1105Order(t *testing.T) {
	for _, list := range [][]string{{"a", "b", "c"}, {"c", "b", "a"}, {"b", "c", "a"}, {"b10", "b9", "b1"}, {"z"}, {}} {
		s := New()
		checkDefine(t, s.Open(), "x", api.FunClass, api.OK)
		for i, name := range list {
			checkNames(t, s, list[:i]...)
			checkDefine(t, s, name, classes[i], api.OK)
		}
		checkNames(t, s, list...)
		checkNames(t, s.Open())
	}
}

func TestP1105Many(t *testing.T) {
	s := New()
	inner := s.Open()
	var list []string
	for i := range 20000 {
		name := fmt.Sprintf("n%d", i*7919%20011)
		list = append(list, name)
		checkDefine(t, s, name, classes[i%4], api.OK)
		if i%2 == 0 {
			checkDefine(t, inner, name, classes[(i+1)%4], api.OK)
		}
	}
	checkNames(t, s, list...)
	for i, name := range list {
		checkFind(t, s, name, classes[i%4])
		checkFind(t, inner, name, classes[(i+1-i%2)%4])
		checkDefine(t, s, name, api.FunClass, api.ErrDuplicate)
	}
	if got := len(inner.Names()); got != 10000 {
		t.Errorf("an inner scope with 10000 definitions has %d names", got)
	}
}

// A caller may do with the names what it wants.
func TestP1105Memory(t *testing.T) {
	s := New()
	checkDefine(t, s, "a", api.FunClass, api.OK)
	checkDefine(t, s, "b", api.ArrayClass, api.OK)
	first, second := s.Names(), s.Names()
	first[0], first[1] = "x", "y"
	_ = append(first[:1], "z", "w")
	checkNames(t, s, "a", "b")
	if !slices.Equal(second, []string{"a", "b"}) {
		t.Errorf("a change of one result changed another one: %q", second)
	}
	_ = append(second, "v")
	checkDefine(t, s, "c", api.Op1Class, api.OK)
	checkDefine(t, s, "d", api.Op1Class, api.OK)
	checkNames(t, s, "a", "b", "c", "d")
	if !slices.Equal(second, []string{"a", "b"}) {
		t.Errorf("a definition changed an earlier result: %q", second)
	}
	checkFind(t, s, "x", 0)
	checkFind(t, s, "a", api.FunClass)
}

func TestP1106(t *testing.T) {
	w := newWorld(t)
	w.define(0, "a", api.ArrayClass)
	for range 3 {
		w.open(0)
	}
	w.open(1)
	w.open(1)
	for i := 1; i < len(w.scopes); i++ {
		for j, name := range []string{"a", "b", string(rune('p' + i))} {
			w.define(i, name, classes[(i+j)%4])
			w.check("a", "b", "p", "q", "r", "s", "t", "u", "v")
		}
	}
	checkNames(t, w.scopes[0], "a")
	checkFind(t, w.scopes[0], "b", 0)
	checkFind(t, w.scopes[3], "q", 0)
	checkFind(t, w.scopes[4], "q", api.Op2Class)
}

// All sequences of up to five calls that open scopes and define two names with two classes.
func TestP1102To1106Sequences(t *testing.T) {
	type step struct {
		scope int
		name  string
		class api.Class
	}
	run := func(steps []step) {
		w := newWorld(t)
		for _, s := range steps {
			if s.name == "" {
				w.open(s.scope)
			} else {
				w.define(s.scope, s.name, s.class)
			}
		}
		w.check("a", "b")
	}
	var extend func(steps []step, scopes int)
	extend = func(steps []step, scopes int) {
		run(steps)
		if len(steps) == 5 {
			return
		}
		for i := range scopes {
			extend(append(steps, step{scope: i}), scopes+1)
			for _, name := range []string{"a", "b"} {
				for _, c := range []api.Class{api.FunClass, api.Op2Class} {
					extend(append(steps, step{i, name, c}), scopes)
				}
			}
		}
	}
	extend(nil, 1)
}

// Long sequences of calls, with names and classes of all kinds.
func TestP1102To1106LongSequences(t *testing.T) {
	names := append(goodNames(), badNames()...)
	for seed := range int64(40) {
		r := rand.New(rand.NewSource(seed))
		w := newWorld(t)
		for range 400 {
			i := r.Intn(len(w.scopes))
			if r.Intn(8) == 0 {
				w.open(i)
				continue
			}
			w.define(i, names[r.Intn(len(names))], api.Class(r.Intn(6)))
		}
		w.check(names...)
	}
}
