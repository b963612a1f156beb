package structure

import (
	"math"
	"math/big"
	"math/rand"
	"reflect"
	"slices"
	"strings"
	"testing"

	"arraylang/api"
	"arraylang/array"
	"arraylang/num"
)

// call is a function of the package, with what the chapter says about it for a valid array. A bare function has no error; do returns OK for it.
type call struct {
	name string
	bare bool
	do   func(y api.Array) (api.Array, api.Errno)
	want func(y api.Array) (api.Array, api.Errno)
}

// calls returns all functions of the package.
func calls() []call {
	return []call{
		{"Shape", true, withOK(Shape), withOK(expectShape)},
		{"Tally", true, withOK(Tally), withOK(expectTally)},
		{"Ravel", true, withOK(Ravel), withOK(expectRavel)},
		{"Depth", true, withOK(Depth), withOK(expectDepth)},
		{"Kind", true, withOK(Kind), withOK(expectKind)},
		{"First", true, withOK(First), withOK(expectFirst)},
		{"Enclose", false, Enclose, expectEnclose},
		{"Disclose", false, Disclose, expectDisclose},
		{"Iota", false, Iota, expectIota},
		{"Ord", false, Ord, expectOrd},
		{"Chr", false, Chr, expectChr},
	}
}

func named(name string) call {
	list := calls()
	return list[slices.IndexFunc(list, func(c call) bool { return c.name == name })]
}

func withOK(f func(y api.Array) api.Array) func(y api.Array) (api.Array, api.Errno) {
	return func(y api.Array) (api.Array, api.Errno) { return f(y), api.OK }
}

// What the chapter says about valid arrays.

func expectShape(y api.Array) api.Array {
	return ints([]int{len(y.Shape)}, y.Shape...)
}

func expectTally(y api.Array) api.Array {
	for _, d := range y.Shape {
		return ints(nil, d)
	}
	return ints(nil, 1)
}

func expectRavel(y api.Array) api.Array {
	return api.Array{Kind: y.Kind, Shape: []int{product(y.Shape)}, Nums: y.Nums, Items: y.Items}
}

// expectDepth opens all boxes of one level at once and counts the levels.
func expectDepth(y api.Array) api.Array {
	depth, level := -1, []api.Array{y}
	for len(level) > 0 {
		depth++
		var next []api.Array
		for _, a := range level {
			next = append(next, a.Items...)
		}
		level = next
	}
	return ints(nil, depth)
}

func expectKind(y api.Array) api.Array {
	return ints(nil, map[api.Kind]int{api.Int: 1, api.Char: 2, api.Boxed: 3}[y.Kind])
}

func expectFirst(y api.Array) api.Array {
	switch {
	case y.Kind == api.Boxed && len(y.Items) == 0:
		return boxed(nil, vector())
	case y.Kind == api.Boxed:
		return boxed(nil, y.Items[0])
	case len(y.Nums) > 0:
		return api.Array{Kind: y.Kind, Nums: y.Nums[:1]}
	case y.Kind == api.Char:
		return chars(nil, 32)
	}
	return ints(nil, 0)
}

func expectEnclose(y api.Array) (api.Array, api.Errno) {
	if expectDepth(y).Nums[0] == api.MaxNest || weight(y) == api.MaxWeight {
		return api.Array{}, api.ErrLimit
	}
	return boxed(nil, y), api.OK
}

func expectDisclose(y api.Array) (api.Array, api.Errno) {
	switch {
	case y.Kind != api.Boxed:
		return y, api.OK
	case product(y.Shape) != 1:
		return api.Array{}, api.ErrLength
	}
	return y.Items[0], api.OK
}

// expectIota looks at the errors one by one in the order of the chapter, with the product in exact arithmetic.
func expectIota(y api.Array) (api.Array, api.Errno) {
	exact := big.NewInt(1)
	for _, d := range y.Nums {
		if d != 0 {
			exact.Mul(exact, big.NewInt(int64(d)))
		}
	}
	switch {
	case y.Kind != api.Int:
		return api.Array{}, api.ErrKind
	case len(y.Shape) > 1:
		return api.Array{}, api.ErrRank
	case slices.ContainsFunc(y.Nums, func(d int) bool { return d < 0 }):
		return api.Array{}, api.ErrDomain
	case len(y.Nums) > api.MaxRank || exact.Cmp(big.NewInt(api.MaxSize)) > 0:
		return api.Array{}, api.ErrLimit
	}
	result := ints(y.Nums)
	for len(result.Nums) < product(y.Nums) {
		result.Nums = append(result.Nums, len(result.Nums))
	}
	return result, api.OK
}

func expectOrd(y api.Array) (api.Array, api.Errno) {
	if y.Kind != api.Char {
		return api.Array{}, api.ErrKind
	}
	return ints(y.Shape, y.Nums...), api.OK
}

func expectChr(y api.Array) (api.Array, api.Errno) {
	if y.Kind != api.Int {
		return api.Array{}, api.ErrKind
	}
	for _, n := range y.Nums {
		if n < 0 || 0xD800 <= n && n <= 0xDFFF || n > 0x10FFFF {
			return api.Array{}, api.ErrDomain
		}
	}
	return chars(y.Shape, y.Nums...), api.OK
}

// weight is the weight of a by its definition.
func weight(a api.Array) int {
	total := product(a.Shape)
	for _, item := range a.Items {
		total += weight(item)
	}
	return total
}

// ints returns the Int array of the given shape and numbers; chars and boxed do so for the other kinds.
func ints(shape []int, nums ...int) api.Array {
	return api.Array{Kind: api.Int, Shape: shape, Nums: nums}
}

func chars(shape []int, nums ...int) api.Array {
	return api.Array{Kind: api.Char, Shape: shape, Nums: nums}
}

func boxed(shape []int, items ...api.Array) api.Array {
	return api.Array{Kind: api.Boxed, Shape: shape, Items: items}
}

func vector(nums ...int) api.Array { return ints([]int{len(nums)}, nums...) }

func boxes(items ...api.Array) api.Array { return boxed([]int{len(items)}, items...) }

func text(s string) api.Array {
	a := chars(nil)
	for _, c := range s {
		a.Nums = append(a.Nums, int(c))
	}
	a.Shape = []int{len(a.Nums)}
	return a
}

func product(shape []int) int {
	size := 1
	for _, d := range shape {
		size *= d
	}
	return size
}

// tower returns a within the given number of boxes.
func tower(a api.Array, boxes int) api.Array {
	for range boxes {
		a = boxed(nil, a)
	}
	return a
}

// cycled returns a list of size elements, which are those of l, repeated cyclically.
func cycled[E any](l []E, size int) []E {
	list := make([]E, size)
	for i := range list {
		list[i] = l[i%len(l)]
	}
	return list
}

// shapes returns shapes of all ranks, among them those without elements, those of one element and those of the greatest sizes.
func shapes() [][]int {
	list := [][]int{
		nil, {}, {0}, {1}, {2}, {3}, {7}, {100}, {api.MaxSize}, {0, 3}, {3, 0}, {2, 3}, {3, 2}, {1, 1}, {1, 2}, {2, 1}, {1, 0}, {0, 1}, {0, 0},
		{256, 256}, {1, api.MaxSize}, {api.MaxSize, 1}, {api.MaxSize, 0}, {0, api.MaxSize}, {0, 256, 256}, {256, 0, 256},
		{2, 2, 2}, {4, 1, 5}, {1, 2, 3, 4}, {2, 0, 2, 0}, {1, 2, 1, 2, 1}, {2, 1, 1, 1, 1, 3}, {2, 2, 2, 2, 2, 2, 2}, {1, 2, 1, 2, 1, 2, 1, 2},
	}
	for rank := range api.MaxRank {
		list = append(list, slices.Repeat([]int{1}, rank+1), slices.Repeat([]int{0}, rank+1))
	}
	return append(list, slices.Repeat([]int{4}, api.MaxRank), []int{1, 1, 1, 1, 1, 1, 1, 2}, []int{2, 1, 1, 1, 1, 1, 1, 1}, []int{1, 1, 1, 1, 1, 1, 1, 0})
}

// numbers returns numbers, some of them characters, others beside characters or near the ends of the range.
func numbers() []int {
	list := []int{5, 0, 1, -1, 32, 97, 255, 256, 0xD7FF, 0xD800, 0xDBFF, 0xDC00, 0xDFFF, 0xE000, 0xFFFF, 0x10000, api.MaxRune, api.MaxRune + 1, 1<<32 + 97, -1 << 32}
	return append(list, -2, -97, 1<<61, api.MaxNum, -api.MaxNum, api.MaxNum-1, 1-api.MaxNum)
}

// characters returns characters, those at the ends of their range and beside what is not a character among them.
func characters() []int {
	return []int{'x', 0, 1, 9, 10, 32, 97, 127, 128, 255, 256, 0xD7FF, 0xE000, 0xFFFD, 0xFFFE, 0xFFFF, 0x10000, 0x1F600, api.MaxRune - 1, api.MaxRune}
}

// items returns arrays of all kinds and several depths that are light enough for a box of MaxSize items.
func items() []api.Array {
	return []api.Array{
		ints(nil, 7), vector(), text("ab"), chars(nil, 'c'), boxes(), boxed(nil, ints(nil, 1)), chars([]int{0, 3}), boxes(vector(), boxed([]int{1, 1}, vector(-1))),
	}
}

// arrays returns valid arrays of all kinds and shapes.
func arrays() []api.Array {
	var list []api.Array
	for _, shape := range shapes() {
		size := product(shape)
		list = append(list, ints(shape, cycled(numbers(), size)...), chars(shape, cycled(characters(), size)...), boxed(shape, cycled(items(), size)...))
		list = append(list, ints(shape, cycled([]int{2, 0}, size)...), boxed(shape, cycled([]api.Array{ints(nil, 1)}, size)...))
	}
	for _, n := range numbers() {
		list = append(list, ints(nil, n), vector(n), vector(1, n), ints([]int{1, 1}, n))
	}
	for _, c := range characters() {
		list = append(list, chars(nil, c), chars([]int{1}, c), chars([]int{1, 2}, c, c))
	}
	for depth := range api.MaxNest + 1 {
		list = append(list, tower(vector(1, 2), depth), tower(vector(), depth), tower(text("abc"), depth), tower(boxes(), depth))
		list = append(list, boxes(tower(ints(nil, 1), max(depth, 1)-1), ints(nil, 2)), boxes(text("a"), tower(ints(nil, 1), max(depth, 1)-1), vector()))
	}
	return append(list, heavy(0), heavy(1), heavy(2), heavy(3))
}

// heavy returns an array whose weight is the given number below MaxWeight.
func heavy(below int) api.Array {
	full := ints([]int{api.MaxSize - 1}, make([]int, api.MaxSize-1)...)
	last := api.MaxSize - 1 - below
	return boxes(full, full, full, ints([]int{last}, make([]int, last)...))
}

// broken returns arrays that are not valid, of all kinds and for all reasons.
func broken() []api.Array {
	itself := boxes(ints(nil, 1), ints(nil, 1))
	itself.Items[1] = itself
	full := ints([]int{api.MaxSize}, make([]int, api.MaxSize)...)
	long := make([]int, api.MaxSize+1)
	list := []api.Array{
		{}, {Nums: []int{1}}, {Items: []api.Array{ints(nil, 1)}}, {Kind: 4, Nums: []int{1}}, {Kind: -1, Nums: []int{1}}, {Kind: math.MinInt, Nums: []int{1}}, {Kind: 1 + 1<<32, Nums: []int{1}},
		ints(slices.Repeat([]int{1}, api.MaxRank+1), 1), ints([]int{-1}), ints([]int{-1}, 1), ints([]int{-1, -1}, 1), ints([]int{0, -1}), ints([]int{math.MinInt}), boxed([]int{-1}, ints(nil, 1)),
		ints([]int{api.MaxSize + 1}), ints([]int{api.MaxSize + 1}, long...), ints([]int{0, api.MaxSize + 1}), ints([]int{256, 257, 0}), ints([]int{math.MaxInt, 2}), ints([]int{1 << 32, 1 << 32}),
		ints(nil), ints(nil, 0, 1), ints([]int{2}, 1), ints([]int{2}, 1, 0, 1), ints([]int{0}, 1), ints([]int{2, 2}, 1, 1, 1),
		{Kind: api.Int, Nums: []int{1}, Items: []api.Array{{}}}, {Kind: api.Int, Shape: []int{0}, Items: []api.Array{ints(nil, 1)}}, {Kind: api.Int, Items: []api.Array{ints(nil, 1)}},
		chars(nil, -1), chars(nil, 0xD800), chars(nil, 0xDFFF), chars(nil, api.MaxRune+1), chars([]int{1}), chars([]int{-1}), chars([]int{1, 2}, 97), {Kind: api.Char, Nums: []int{1}, Items: []api.Array{{}}},
		boxed(nil), boxed(nil, api.Array{}), boxed(nil, chars(nil, -1)), boxed([]int{0}, ints(nil, 1)), boxed([]int{2}, ints(nil, 1)), boxed(nil, ints(nil, 1), ints(nil, 2)), {Kind: api.Boxed, Nums: []int{1}},
		tower(ints(nil, 1), api.MaxNest+1), tower(ints(nil, 1), api.MaxNest+2), tower(boxes(), api.MaxNest+1), itself, boxes(full, full, full, full), heavy(-1), boxed(nil, heavy(0)),
		{Kind: api.Boxed, Nums: []int{1}, Items: []api.Array{ints(nil, 1)}}, boxes(ints(nil, 1), boxes(ints(nil, 2), ints([]int{2}, 3))),
	}
	for _, n := range []int{api.MaxNum + 1, -api.MaxNum - 1, api.MaxNum + 2, math.MaxInt, math.MinInt, math.MinInt + 1, math.MinInt + 97} {
		list = append(list, ints(nil, n), vector(1, n), vector(n, 1), boxed(nil, ints(nil, n)))
	}
	return list
}

// brief describes a by its kind, its shape and its first elements; it does not visit items, which may contain themselves.
func brief(a api.Array) string {
	text := "[" + num.Show(int(a.Kind)) + "; "
	for _, d := range a.Shape {
		text += num.Show(d) + " "
	}
	text += "; "
	for _, n := range a.Nums[:min(len(a.Nums), 8)] {
		text += num.Show(n) + " "
	}
	return strings.TrimSpace(text) + "; " + num.Show(len(a.Items)) + " items]"
}

// check compares the result of c for y with what the chapter says about it.
func check(t *testing.T, c call, y, want api.Array, e api.Errno) {
	t.Helper()
	got, f := c.do(y)
	if f != e || !array.Same(got, want) {
		t.Errorf("%s(%s) = %s, %d; want %s, %d", c.name, brief(y), brief(got), f, brief(want), e)
	}
	if f != api.OK && !reflect.DeepEqual(got, api.Array{}) {
		t.Errorf("%s(%s) returns %s with the error %d", c.name, brief(y), brief(got), f)
	}
	if f == api.OK && e == api.OK && got.Kind != 0 && array.Right(got) != api.OK {
		t.Errorf("%s(%s) = %s is not valid", c.name, brief(y), brief(got))
	}
}

// checkModel compares c with the model for each of l.
func checkModel(t *testing.T, c call, l []api.Array) {
	t.Helper()
	for _, y := range l {
		want, e := c.want(y)
		check(t, c, y, want, e)
	}
}

// checkName compares the named function with the given result.
func checkName(t *testing.T, name string, y, want api.Array, e api.Errno) {
	t.Helper()
	check(t, named(name), y, want, e)
}

// overwrite changes all memory that a holds, also behind the ends of its lists.
func overwrite(a api.Array) {
	for _, l := range [][]int{a.Shape, a.Nums} {
		for i := range l[:cap(l)] {
			l[:cap(l)][i] = -77
		}
	}
	for i := range a.Items[:cap(a.Items)] {
		overwrite(a.Items[:cap(a.Items)][i])
		a.Items[:cap(a.Items)][i] = api.Array{Kind: -77}
	}
}

// samples returns arrays for which each function has a result, or an error.
func samples() []api.Array {
	shared := vector(1, 2, 3)
	return []api.Array{
		ints(nil, 3), vector(), vector(2, 3), vector(0, 2), vector(-1, 2), ints([]int{2, 2}, 97, 98, 99, 100), ints([]int{0, 2}), ints([]int{1}, api.MaxNum),
		chars(nil, 'a'), text(""), text("abc"), chars([]int{2, 2}, 97, 98, 99, 100), boxed(nil, vector(4, 5)), boxed(nil, text("xyz")), boxed([]int{1, 1}, boxes(shared, shared)),
		boxes(), boxes(shared, shared), boxes(vector(1), boxes(text("ab"), shared)), boxed([]int{2, 2}, ints(nil, 1), shared, text("b"), boxed(nil, shared)), tower(shared, api.MaxNest), heavy(0), {},
	}
}

func TestP1701SamplesAreTelling(t *testing.T) {
	for _, a := range arrays() {
		if e := array.Right(a); e != api.OK {
			t.Fatalf("%s has the error %d", brief(a), e)
		}
	}
	for i, a := range broken() {
		if array.Right(a) == api.OK {
			t.Fatalf("array %d, %s, is valid", i, brief(a))
		}
	}
	for below := range 4 {
		if got := weight(heavy(below)); got != api.MaxWeight-below {
			t.Fatalf("the heavy array %d has the weight %d", below, got)
		}
	}
}

func TestP1701Invalid(t *testing.T) {
	for _, c := range calls() {
		e := api.ErrArg
		if c.bare {
			e = api.OK
		}
		for _, y := range broken() {
			check(t, c, y, api.Array{}, e)
			if got, _ := c.do(y); !reflect.DeepEqual(got, api.Array{}) {
				t.Errorf("%s(%s) = %s, which is not the zero Array", c.name, brief(y), brief(got))
			}
		}
	}
}

// These have other errors as well, which the functions name after ErrArg.
func TestP1701InvalidFirst(t *testing.T) {
	checkName(t, "Iota", chars(nil, -1), api.Array{}, api.ErrArg)
	checkName(t, "Iota", ints([]int{1, 2}, -1), api.Array{}, api.ErrArg)
	checkName(t, "Iota", vector(-1, math.MinInt), api.Array{}, api.ErrArg)
	checkName(t, "Iota", vector(-api.MaxNum-1), api.Array{}, api.ErrArg)
	checkName(t, "Iota", vector(1, 1, 1, 1, 1, 1, 1, 1, api.MaxNum+1), api.Array{}, api.ErrArg)
	checkName(t, "Ord", ints(nil), api.Array{}, api.ErrArg)
	checkName(t, "Ord", chars(nil, 0xD800), api.Array{}, api.ErrArg)
	checkName(t, "Chr", chars([]int{2}, 'a'), api.Array{}, api.ErrArg)
	checkName(t, "Chr", vector(-1, math.MaxInt), api.Array{}, api.ErrArg)
	checkName(t, "Disclose", boxed([]int{2}, ints(nil, 1)), api.Array{}, api.ErrArg)
	checkName(t, "Disclose", boxes(ints(nil, 1), api.Array{}), api.Array{}, api.ErrArg)
	checkName(t, "Disclose", ints(nil), api.Array{}, api.ErrArg)
	checkName(t, "Enclose", tower(ints(nil, 1), api.MaxNest+1), api.Array{}, api.ErrArg)
	checkName(t, "Enclose", heavy(-1), api.Array{}, api.ErrArg)
}

func TestP1701AllArrays(t *testing.T) {
	list := arrays()
	for _, c := range calls() {
		checkModel(t, c, list)
	}
}

func TestP1701Pure(t *testing.T) {
	for _, c := range calls() {
		for _, y := range samples() {
			want, e := c.do(y)
			for _, other := range calls() {
				other.do(y)
				other.do(vector(3, 1, 4))
			}
			check(t, c, y, want, e)
		}
	}
}

func TestP1701ArgumentsKept(t *testing.T) {
	for _, c := range calls() {
		for _, y := range append(samples(), broken()[:10]...) {
			// What lies behind the shape and the elements must be kept, too.
			kept := api.Array{Kind: y.Kind, Shape: append(slices.Clone(y.Shape), 7, 8), Nums: append(slices.Clone(y.Nums), 9, 10), Items: append(slices.Clone(y.Items), ints(nil, 11))}
			want := array.Clone(kept)
			c.do(api.Array{Kind: y.Kind, Shape: kept.Shape[:len(y.Shape)], Nums: kept.Nums[:len(y.Nums)], Items: kept.Items[:len(y.Items)]})
			if !reflect.DeepEqual(kept, want) {
				t.Errorf("%s(%s) changed its argument to %s", c.name, brief(y), brief(kept))
			}
		}
	}
}

func TestP1701NoSharedMemory(t *testing.T) {
	for _, c := range calls() {
		for _, sample := range samples() {
			want, e := c.do(array.Clone(sample))
			y := array.Clone(sample)
			first, _ := c.do(y)
			second, _ := c.do(y)
			overwrite(first)
			if !array.Same(y, sample) || !array.Same(second, want) {
				t.Errorf("a result of %s(%s) shares memory: y is now %s, the second result is %s", c.name, brief(sample), brief(y), brief(second))
			}
			check(t, c, y, want, e)
			third, _ := c.do(y)
			overwrite(y)
			if !array.Same(second, want) || !array.Same(third, want) {
				t.Errorf("a result of %s(%s) changes with its argument to %s", c.name, brief(sample), brief(second))
			}
		}
	}
}

// lists returns all lists that a holds, up to their capacities.
func lists(a api.Array) (nums [][]int, items [][]api.Array) {
	nums = append(nums, a.Shape[:cap(a.Shape)], a.Nums[:cap(a.Nums)])
	items = append(items, a.Items[:cap(a.Items)])
	for _, item := range a.Items {
		n, i := lists(item)
		nums, items = append(nums, n...), append(items, i...)
	}
	return nums, items
}

func TestP1701ListsOfResultsDiffer(t *testing.T) {
	for _, c := range calls() {
		for _, y := range samples() {
			got, _ := c.do(y)
			nums, items := lists(got)
			// Each list is filled with its own number, which it keeps if no other list is in its memory.
			for id, l := range nums {
				for i := range l {
					l[i] = id
				}
			}
			for id, l := range items {
				for i := range l {
					l[i] = api.Array{Kind: api.Kind(id)}
				}
			}
			for id, l := range nums {
				if slices.ContainsFunc(l, func(n int) bool { return n != id }) {
					t.Errorf("two lists of numbers of %s(%s) share memory", c.name, brief(y))
				}
			}
			for id, l := range items {
				if slices.ContainsFunc(l, func(a api.Array) bool { return a.Kind != api.Kind(id) }) {
					t.Errorf("two lists of items of %s(%s) share memory", c.name, brief(y))
				}
			}
		}
	}
}

func TestP1701NilIsEmpty(t *testing.T) {
	for _, c := range calls() {
		for _, kind := range []api.Kind{api.Int, api.Char, api.Boxed} {
			for _, y := range []api.Array{
				{Kind: kind, Shape: []int{0}}, {Kind: kind, Shape: []int{0}, Nums: []int{}, Items: []api.Array{}},
				{Kind: kind, Shape: []int{0}, Nums: []int{}}, {Kind: kind, Shape: []int{0}, Items: []api.Array{}},
			} {
				want, e := c.want(api.Array{Kind: kind, Shape: []int{0}})
				check(t, c, y, want, e)
			}
		}
		for _, y := range []api.Array{ints(nil, 3), chars(nil, 'a'), boxed(nil, ints(nil, 1))} {
			want, e := c.want(y)
			y.Shape = []int{}
			check(t, c, y, want, e)
			if y.Kind == api.Boxed {
				y.Nums = []int{}
			} else {
				y.Items = []api.Array{}
			}
			check(t, c, y, want, e)
		}
	}
}

func TestP1701Random(t *testing.T) {
	random := rand.New(rand.NewSource(17))
	for range 20000 {
		y := randomArray(random, 4)
		if array.Right(y) != api.OK {
			t.Fatalf("%s is not valid", brief(y))
		}
		for _, c := range calls() {
			want, e := c.want(y)
			check(t, c, y, want, e)
		}
	}
}

// randomArray returns an array whose boxes are nested at most deep times.
func randomArray(random *rand.Rand, deep int) api.Array {
	shape := make([]int, random.Intn(4)*random.Intn(3))
	for i := range shape {
		shape[i] = random.Intn(5)
	}
	for product(shape) > 12 {
		shape = shape[1:]
	}
	a := api.Array{Kind: api.Kind(1 + random.Intn(3)), Shape: shape}
	if deep == 0 && a.Kind == api.Boxed {
		a.Kind = api.Char
	}
	for range product(shape) {
		switch a.Kind {
		case api.Int:
			a.Nums = append(a.Nums, numbers()[random.Intn(len(numbers()))])
		case api.Char:
			a.Nums = append(a.Nums, characters()[random.Intn(len(characters()))])
		default:
			a.Items = append(a.Items, randomArray(random, deep-1))
		}
	}
	return a
}

func TestP1702Shape(t *testing.T) {
	for _, shape := range shapes() {
		size := product(shape)
		for _, y := range []api.Array{ints(shape, make([]int, size)...), chars(shape, make([]int, size)...), boxed(shape, cycled([]api.Array{vector(9, 9)}, size)...)} {
			checkName(t, "Shape", y, vector(shape...), api.OK)
		}
	}
	// The shape of a scalar is empty, and that of a shape has the rank as its only number.
	checkName(t, "Shape", ints(nil, 5), vector(), api.OK)
	checkName(t, "Shape", Shape(ints([]int{2, 1, 1}, 5, 6)), vector(3), api.OK)
}

func TestP1702Tally(t *testing.T) {
	for _, shape := range shapes() {
		want := 1
		if len(shape) > 0 {
			want = shape[0]
		}
		size := product(shape)
		for _, y := range []api.Array{ints(shape, make([]int, size)...), chars(shape, make([]int, size)...), boxed(shape, cycled([]api.Array{vector(9, 9)}, size)...)} {
			checkName(t, "Tally", y, ints(nil, want), api.OK)
		}
	}
}

func TestP1702Ravel(t *testing.T) {
	checkName(t, "Ravel", ints([]int{2, 3}, 1, 2, 3, 4, 5, 6), vector(1, 2, 3, 4, 5, 6), api.OK)
	checkName(t, "Ravel", ints([]int{2, 1, 2}, 1, 2, 3, 4), vector(1, 2, 3, 4), api.OK)
	checkName(t, "Ravel", ints(nil, 5), vector(5), api.OK)
	checkName(t, "Ravel", chars(nil, 'a'), text("a"), api.OK)
	checkName(t, "Ravel", chars([]int{2, 2}, 97, 98, 99, 100), text("abcd"), api.OK)
	checkName(t, "Ravel", boxed(nil, vector(1, 2)), boxes(vector(1, 2)), api.OK)
	checkName(t, "Ravel", boxed([]int{2, 2}, vector(1), text("a"), boxes(), ints(nil, 3)), boxes(vector(1), text("a"), boxes(), ints(nil, 3)), api.OK)
	// An array without elements keeps its kind.
	for _, shape := range [][]int{{0}, {0, 3}, {3, 0}, {api.MaxSize, 0}, slices.Repeat([]int{0}, api.MaxRank)} {
		checkName(t, "Ravel", ints(shape), vector(), api.OK)
		checkName(t, "Ravel", chars(shape), text(""), api.OK)
		checkName(t, "Ravel", boxed(shape), boxes(), api.OK)
	}
	for _, y := range arrays() {
		once := Ravel(y)
		checkName(t, "Ravel", once, once, api.OK)
		if !slices.Equal(once.Shape, []int{array.Size(y)}) {
			t.Errorf("Ravel(%s) = %s", brief(y), brief(once))
		}
	}
}

func TestP1702Depth(t *testing.T) {
	for _, a := range []api.Array{ints(nil, 1), vector(), vector(1, 2), text(""), chars([]int{2, 0}), boxes(), boxed([]int{0, 3}), boxed([]int{2, 0, 2})} {
		for depth := range api.MaxNest + 1 {
			checkName(t, "Depth", tower(a, depth), ints(nil, depth), api.OK)
		}
	}
	// The deepest item is at each of the places.
	for depth := range api.MaxNest {
		for other := range depth + 1 {
			for at := range 4 {
				y := boxed([]int{2, 2}, cycled([]api.Array{tower(text("a"), other)}, 4)...)
				y.Items[at] = tower(boxes(), depth)
				checkName(t, "Depth", y, ints(nil, depth+1), api.OK)
			}
		}
	}
}

// trees returns all arrays of empty and other boxed vectors with the given number of boxes in all.
func trees(count int) []api.Array {
	var list []api.Array
	for _, l := range forests(count - 1) {
		list = append(list, boxes(l...))
	}
	return list
}

// forests returns all lists of trees with the given number of boxes in all.
func forests(count int) [][]api.Array {
	if count == 0 {
		return [][]api.Array{nil}
	}
	var list [][]api.Array
	for first := 1; first <= count; first++ {
		for _, tree := range trees(first) {
			for _, rest := range forests(count - first) {
				list = append(list, append([]api.Array{tree}, rest...))
			}
		}
	}
	return list
}

func TestP1702DepthOfTrees(t *testing.T) {
	for count := 1; count <= 9; count++ {
		checkModel(t, named("Depth"), trees(count))
	}
	if got := len(trees(9)); got != 1430 {
		t.Errorf("%d trees have 9 boxes", got)
	}
}

func TestP1702Kind(t *testing.T) {
	for _, shape := range shapes() {
		size := product(shape)
		checkName(t, "Kind", ints(shape, make([]int, size)...), ints(nil, 1), api.OK)
		checkName(t, "Kind", chars(shape, make([]int, size)...), ints(nil, 2), api.OK)
		checkName(t, "Kind", boxed(shape, cycled([]api.Array{chars(nil, 'a')}, size)...), ints(nil, 3), api.OK)
	}
}

func TestP1703Enclose(t *testing.T) {
	for _, y := range []api.Array{ints(nil, 5), vector(), vector(1, 2), text("abc"), boxes(), boxed(nil, ints(nil, 5)), ints([]int{2, 3}, 1, 2, 3, 4, 5, 6)} {
		checkName(t, "Enclose", y, boxed(nil, y), api.OK)
	}
	// A scalar is boxed like any other array.
	checkName(t, "Enclose", ints(nil, 0), api.Array{Kind: api.Boxed, Items: []api.Array{{Kind: api.Int, Nums: []int{0}}}}, api.OK)
}

func TestP1703EncloseNest(t *testing.T) {
	for _, a := range []api.Array{ints(nil, 1), vector(), text("ab"), boxes()} {
		for depth := range api.MaxNest {
			checkName(t, "Enclose", tower(a, depth), tower(a, depth+1), api.OK)
		}
		checkName(t, "Enclose", tower(a, api.MaxNest), api.Array{}, api.ErrLimit)
		checkName(t, "Enclose", boxes(ints(nil, 1), tower(a, api.MaxNest-2)), boxed(nil, boxes(ints(nil, 1), tower(a, api.MaxNest-2))), api.OK)
		checkName(t, "Enclose", boxes(ints(nil, 1), tower(a, api.MaxNest-1)), api.Array{}, api.ErrLimit)
	}
}

func TestP1703EncloseWeight(t *testing.T) {
	checkName(t, "Enclose", heavy(0), api.Array{}, api.ErrLimit)
	for below := 1; below < 4; below++ {
		checkName(t, "Enclose", heavy(below), boxed(nil, heavy(below)), api.OK)
		checkName(t, "Enclose", tower(heavy(below), below-1), tower(heavy(below), below), api.OK)
		checkName(t, "Enclose", tower(heavy(below), below), api.Array{}, api.ErrLimit)
	}
	full := ints([]int{api.MaxSize}, make([]int, api.MaxSize)...)
	checkName(t, "Enclose", full, boxed(nil, full), api.OK)
}

func TestP1703Disclose(t *testing.T) {
	for _, item := range append(items(), ints([]int{2, 3}, 1, 2, 3, 4, 5, 6), tower(vector(1), api.MaxNest-1), text("abc")) {
		for rank := range api.MaxRank + 1 {
			checkName(t, "Disclose", boxed(slices.Repeat([]int{1}, rank), item), item, api.OK)
		}
		for _, shape := range shapes() {
			size := product(shape)
			if size == 1 || size*(1+weight(item)) > api.MaxWeight {
				continue
			}
			checkName(t, "Disclose", boxed(shape, cycled([]api.Array{item}, size)...), api.Array{}, api.ErrLength)
		}
	}
	for _, shape := range shapes() {
		y := ints(shape, cycled(numbers(), product(shape))...)
		checkName(t, "Disclose", y, y, api.OK)
		y = chars(shape, cycled(characters(), product(shape))...)
		checkName(t, "Disclose", y, y, api.OK)
	}
	// Only one box is opened.
	checkName(t, "Disclose", tower(ints(nil, 5), 2), boxed(nil, ints(nil, 5)), api.OK)
	checkName(t, "Disclose", tower(boxes(), 1), boxes(), api.OK)
}

func TestP1703First(t *testing.T) {
	for _, shape := range shapes() {
		if product(shape) > 0 {
			continue
		}
		checkName(t, "First", ints(shape), ints(nil, 0), api.OK)
		checkName(t, "First", chars(shape), chars(nil, ' '), api.OK)
		checkName(t, "First", boxed(shape), boxed(nil, vector()), api.OK)
	}
	for _, shape := range [][]int{nil, {1}, {2}, {2, 2}, {1, 2, 1, 3}, {256, 256}, slices.Repeat([]int{1}, api.MaxRank)} {
		size := product(shape)
		for _, n := range numbers() {
			y := ints(shape, cycled([]int{7, 8}, size)...)
			y.Nums[0] = n
			checkName(t, "First", y, ints(nil, n), api.OK)
		}
		for _, c := range characters() {
			y := chars(shape, cycled([]int{7, 8}, size)...)
			y.Nums[0] = c
			checkName(t, "First", y, chars(nil, c), api.OK)
		}
		for _, item := range items() {
			y := boxed(shape, cycled([]api.Array{ints(nil, 7), vector()}, size)...)
			y.Items[0] = item
			checkName(t, "First", y, boxed(nil, item), api.OK)
		}
	}
}

func TestP1704Iota(t *testing.T) {
	checkName(t, "Iota", vector(2, 3), ints([]int{2, 3}, 0, 1, 2, 3, 4, 5), api.OK)
	checkName(t, "Iota", ints(nil, 4), vector(0, 1, 2, 3), api.OK)
	checkName(t, "Iota", vector(4), vector(0, 1, 2, 3), api.OK)
	checkName(t, "Iota", ints(nil, 0), vector(), api.OK)
	checkName(t, "Iota", ints(nil, 1), vector(0), api.OK)
	checkName(t, "Iota", vector(), ints(nil, 0), api.OK)
	checkName(t, "Iota", vector(1, 1), ints([]int{1, 1}, 0), api.OK)
	checkName(t, "Iota", vector(2, 0, 3), ints([]int{2, 0, 3}), api.OK)
	for n := range 300 {
		want, _ := expectIota(ints(nil, n))
		checkName(t, "Iota", ints(nil, n), want, api.OK)
		checkName(t, "Iota", vector(n), want, api.OK)
	}
	for _, shape := range shapes() {
		want, e := expectIota(vector(shape...))
		checkName(t, "Iota", vector(shape...), want, e)
		if e != api.OK || len(want.Nums) != product(shape) {
			t.Errorf("iota of %v has the error %d", shape, e)
		}
	}
}

// tuples visits all lists of the given length of elements of l.
func tuples(l []int, length int, visit func(list []int)) {
	list := make([]int, length)
	var fill func(at int)
	fill = func(at int) {
		if at == length {
			visit(list)
			return
		}
		for _, n := range l {
			list[at] = n
			fill(at + 1)
		}
	}
	fill(0)
}

func TestP1704AllLists(t *testing.T) {
	iota := named("Iota")
	for length := range 4 {
		tuples([]int{0, 1, 2, -1, 255, 256, 257, 65535, 65536, 65537, 1 << 31, 1 << 61, api.MaxNum, -api.MaxNum}, length, func(list []int) {
			checkModel(t, iota, []api.Array{vector(list...)})
		})
	}
	for length := range api.MaxRank + 3 {
		tuples([]int{0, 1, -1}, length, func(list []int) { checkModel(t, iota, []api.Array{vector(list...)}) })
	}
	for length := range api.MaxRank + 1 {
		tuples([]int{1, 4, 5}, length, func(list []int) {
			if product(list) <= 1024 || product(list) > api.MaxSize {
				checkModel(t, iota, []api.Array{vector(list...)})
			}
		})
	}
}

func TestP1704Errors(t *testing.T) {
	// Each of these has the errors that the chapter names later as well.
	for _, y := range []api.Array{chars([]int{2, 2}, 1, 1, 1, 1), chars([]int{1, 9}, make([]int, 9)...), chars(nil, 5), text(""), chars([]int{0, 0}), boxes(), boxed([]int{1, 1}, vector(-1)), boxed(nil, ints(nil, 3))} {
		checkName(t, "Iota", y, api.Array{}, api.ErrKind)
	}
	for _, y := range []api.Array{ints([]int{1, 1}, 3), ints([]int{1, 2}, -1, 2), ints([]int{0, 0}), ints([]int{0, 3}), ints([]int{3, 0}), ints([]int{1, 1, 1}, api.MaxNum), ints(slices.Repeat([]int{1}, api.MaxRank), -1), ints([]int{9, 1}, make([]int, 9)...)} {
		checkName(t, "Iota", y, api.Array{}, api.ErrRank)
	}
	for _, y := range []api.Array{ints(nil, -1), vector(-1), vector(0, -1), vector(1<<31, 1<<31, 4, -1), vector(-1, api.MaxNum), vector(-api.MaxNum), vector(1, 1, 1, 1, 1, 1, 1, 1, -1), vector(-1, 1, 1, 1, 1, 1, 1, 1, 1), vector(-2, -2)} {
		checkName(t, "Iota", y, api.Array{}, api.ErrDomain)
	}
	for _, y := range []api.Array{
		ints(nil, api.MaxSize+1), vector(api.MaxSize + 1), vector(256, 257), vector(0, api.MaxSize+1), vector(api.MaxSize+1, 0), vector(256, 0, 257), vector(api.MaxNum), ints(nil, api.MaxNum),
		vector(1<<32, 1<<32), vector(1<<31, 1<<31, 4), vector(1<<32, 1<<32, 0), vector(1<<61, 8, 1), vector(3, 6148914691236517205/2+1),
		vector(1, 1, 1, 1, 1, 1, 1, 1, 1), vector(0, 0, 0, 0, 0, 0, 0, 0, 0), vector(make([]int, 100)...), vector(slices.Repeat([]int{2}, 17)...), vector(make([]int, api.MaxSize)...), vector(4, 4, 4, 4, 4, 4, 4, 5),
	} {
		checkName(t, "Iota", y, api.Array{}, api.ErrLimit)
	}
}

func TestP1705Characters(t *testing.T) {
	for start := 0; start <= api.MaxRune; start += api.MaxSize {
		var list []int
		for c := start; c < start+api.MaxSize && c <= api.MaxRune; c++ {
			if c < 0xD800 || c > 0xDFFF {
				list = append(list, c)
			}
		}
		y := chars([]int{len(list)}, list...)
		checkName(t, "Ord", y, vector(list...), api.OK)
		checkName(t, "Chr", vector(list...), y, api.OK)
	}
	for n := -1000; n <= api.MaxRune+1000; n++ {
		_, e := Chr(api.Array{Kind: api.Int, Nums: []int{n}})
		if _, want := expectChr(ints(nil, n)); e != want {
			t.Fatalf("Chr of %d has the error %d, want %d", n, e, want)
		}
	}
}

func TestP1705Shapes(t *testing.T) {
	for _, shape := range shapes() {
		l := cycled(characters(), product(shape))
		checkName(t, "Ord", chars(shape, l...), ints(shape, l...), api.OK)
		checkName(t, "Chr", ints(shape, l...), chars(shape, l...), api.OK)
	}
	checkName(t, "Ord", text("a"), vector(97), api.OK)
	checkName(t, "Ord", text("aé€😀"), vector(97, 0xE9, 0x20AC, 0x1F600), api.OK)
	checkName(t, "Ord", text(""), vector(), api.OK)
	checkName(t, "Chr", vector(104, 105), text("hi"), api.OK)
	checkName(t, "Chr", ints([]int{0, 4}), chars([]int{0, 4}), api.OK)
}

func TestP1705Kinds(t *testing.T) {
	for _, shape := range shapes() {
		size := product(shape)
		b := boxed(shape, cycled([]api.Array{chars(nil, 'a'), ints(nil, 97)}, size)...)
		checkName(t, "Ord", b, api.Array{}, api.ErrKind)
		checkName(t, "Chr", b, api.Array{}, api.ErrKind)
		checkName(t, "Ord", ints(shape, cycled([]int{97, -1}, size)...), api.Array{}, api.ErrKind)
		checkName(t, "Chr", chars(shape, cycled([]int{97, 0}, size)...), api.Array{}, api.ErrKind)
	}
}

func TestP1705Domain(t *testing.T) {
	strangers := []int{-1, -2, -97, 0xD800, 0xD801, 0xDA00, 0xDBFF, 0xDC00, 0xDFFE, 0xDFFF, api.MaxRune + 1, api.MaxRune + 2, 1 << 21, 1<<31 + 97, 1<<32 + 97, 1<<61 + 97, 97 - 1<<32, api.MaxNum, -api.MaxNum}
	for _, n := range strangers {
		checkName(t, "Chr", ints(nil, n), api.Array{}, api.ErrDomain)
		for size := 1; size <= 6; size++ {
			for at := range size {
				l := cycled([]int{97, 0, api.MaxRune}, size)
				l[at] = n
				checkName(t, "Chr", vector(l...), api.Array{}, api.ErrDomain)
				checkName(t, "Chr", ints([]int{1, size, 1}, l...), api.Array{}, api.ErrDomain)
			}
		}
	}
	l := cycled([]int{97}, api.MaxSize)
	l[api.MaxSize-1] = 0xD800
	checkName(t, "Chr", ints([]int{256, 256}, l...), api.Array{}, api.ErrDomain)
}

func TestP1706Boxes(t *testing.T) {
	for _, y := range arrays() {
		box, e := Enclose(y)
		if e != api.OK {
			continue
		}
		checkName(t, "Disclose", box, y, api.OK)
		if depth := Depth(box).Nums[0]; depth != 1+Depth(y).Nums[0] {
			t.Errorf("Enclose(%s) has the depth %d", brief(y), depth)
		}
		if len(Shape(box).Nums) != 0 || !array.Same(First(box), box) {
			t.Errorf("Enclose(%s) = %s, with the first element %s", brief(y), brief(box), brief(First(box)))
		}
	}
}

func TestP1706Characters(t *testing.T) {
	for _, y := range arrays() {
		if codes, e := Ord(y); e == api.OK {
			checkName(t, "Chr", codes, y, api.OK)
		} else if y.Kind == api.Char {
			t.Errorf("Ord(%s) has the error %d", brief(y), e)
		}
		if text, e := Chr(y); e == api.OK {
			checkName(t, "Ord", text, y, api.OK)
		}
	}
}

func TestP1706Shapes(t *testing.T) {
	for _, shape := range shapes() {
		y := vector(shape...)
		a, e := Iota(y)
		if e != api.OK {
			t.Fatalf("Iota(%s) has the error %d", brief(y), e)
		}
		checkName(t, "Shape", a, y, api.OK)
		checkName(t, "Iota", Shape(a), a, api.OK)
		checkName(t, "First", a, ints(nil, 0), api.OK)
		checkName(t, "Ravel", a, vector(a.Nums...), api.OK)
	}
	for n := range 100 {
		a, _ := Iota(ints(nil, n))
		checkName(t, "Shape", a, vector(n), api.OK)
		checkName(t, "Tally", a, ints(nil, n), api.OK)
	}
}

func TestExamples(t *testing.T) {
	checkName(t, "Iota", vector(2, 3), ints([]int{2, 3}, 0, 1, 2, 3, 4, 5), api.OK)
	checkName(t, "Iota", ints(nil, 4), vector(0, 1, 2, 3), api.OK)
	checkName(t, "Shape", ints(nil, 7), vector(), api.OK)
	checkName(t, "Tally", ints(nil, 7), ints(nil, 1), api.OK)
	checkName(t, "Depth", boxed(nil, ints(nil, 5)), ints(nil, 1), api.OK)
	checkName(t, "Depth", boxes(), ints(nil, 0), api.OK)
	checkName(t, "Ord", text("a"), vector(97), api.OK)
}
