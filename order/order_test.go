package order

import (
	"cmp"
	"fmt"
	"math"
	"reflect"
	"slices"
	"strings"
	"testing"
	"time"

	"arraylang/api"
	"arraylang/array"
	"arraylang/shape"
)

// ints returns the Int array of the given shape and numbers; chars and boxed do so for the other kinds.
func ints(s []int, nums ...int) api.Array {
	return api.Array{Kind: api.Int, Shape: s, Nums: nums}
}

func chars(s []int, nums ...int) api.Array {
	return api.Array{Kind: api.Char, Shape: s, Nums: nums}
}

func boxed(s []int, items ...api.Array) api.Array {
	return api.Array{Kind: api.Boxed, Shape: s, Items: items}
}

// short names for the arrays of which most examples consist.
func num(n int) api.Array           { return array.Scalar(n) }
func vec(l ...int) api.Array        { return array.Vector(l...) }
func text(s string) api.Array       { return array.Text(s) }
func box(l ...api.Array) api.Array  { return boxed([]int{len(l)}, l...) }
func repeat(d, count int) []int     { return slices.Repeat([]int{d}, count) }
func empty(s ...int) api.Array      { return ints(s) }
func emptyChars(s ...int) api.Array { return chars(s) }
func emptyBoxes(s ...int) api.Array { return boxed(s) }

// long returns an Int vector of zeros.
func long(size int) api.Array { return ints([]int{size}, make([]int, size)...) }

// heavy returns a boxed vector of the given weight, which must be more than 200000.
func heavy(weight int) api.Array {
	return box(long(api.MaxSize), long(api.MaxSize), long(api.MaxSize), long(weight-4-3*api.MaxSize))
}

// nest returns a within count boxes.
func nest(a api.Array, count int) api.Array {
	for range count {
		a = boxed(nil, a)
	}
	return a
}

// within returns an array that is one of its own items, which a valid array never is. It cannot be printed or compared by its contents.
func within() api.Array {
	items := []api.Array{num(1), {}}
	items[1] = box(items...)
	items[1].Items = items
	return items[1]
}

// counted returns the Int array of the given shape whose elements count from 1.
func counted(s ...int) api.Array {
	a := ints(s)
	for n := range shape.Size(s) {
		a.Nums = append(a.Nums, n+1)
	}
	return a
}

// chain returns valid arrays in ascending order, no two of them equal, by the chapter's words.
func chain() []api.Array {
	return slices.Concat(
		[]api.Array{num(-api.MaxNum), num(-2), num(-1), num(0), num(1), num(7), num(10), num(api.MaxNum)},
		[]api.Array{empty(0), vec(-api.MaxNum, 5), vec(-1), vec(0), vec(0, 0), vec(0, 0, -1), vec(0, 1), vec(1), vec(1, 2), vec(1, 2, -5), vec(1, 2, 0), vec(1, 3), vec(2), vec(2, -9, -9), vec(10), vec(api.MaxNum)},
		// A matrix without rows precedes all others, and one without columns precedes all that have some.
		[]api.Array{empty(0, 0), empty(0, 1), empty(0, 3), empty(0, 5), empty(0, api.MaxSize), empty(1, 0), empty(2, 0), empty(3, 0), empty(30, 0)},
		[]api.Array{counted(1, 1), ints([]int{2, 1}, 1, 1), ints([]int{2, 1}, 1, 2), ints([]int{1, 2}, 1, 0), counted(1, 2), ints([]int{2, 2}, 1, 2, -7, 9), counted(2, 2), ints([]int{2, 2}, 1, 2, 3, 5), counted(1, 3)},
		[]api.Array{ints([]int{2, 3}, 1, 2, 3, 4, 5, 5), counted(2, 3), ints([]int{2, 2}, 1, 3, 0, 0), ints([]int{1, 1}, 2), ints([]int{1, 1}, 3)},
		[]api.Array{empty(0, 0, 0), empty(0, 0, 4), empty(0, 1, 0), empty(0, 2, 7), empty(0, 3, 7), empty(1, 0, 0), empty(1, 0, 2), empty(2, 0, 0), empty(2, 0, 9), empty(3, 0, 5), empty(1, 1, 0), empty(2, 1, 0), empty(1, 2, 0), empty(2, 2, 0)},
		[]api.Array{ints([]int{1, 1, 1}, 0), ints([]int{1, 2, 1}, 0, 0), ints([]int{1, 1, 2}, 0, 0), ints([]int{2, 1, 1}, 1, 0), counted(2, 1, 1), counted(1, 1, 2), counted(2, 1, 2), counted(1, 2, 2), counted(2, 2, 2)},
		[]api.Array{empty(repeat(0, api.MaxRank)...), empty(0, 0, 0, 0, 0, 0, 0, 1), empty(1, 1, 1, 1, 1, 1, 0, 0), ints(repeat(1, api.MaxRank), 4), ints(repeat(1, api.MaxRank), 5)},
		[]api.Array{chars(nil, 0), chars(nil, ' '), chars(nil, 'A'), chars(nil, 'a'), chars(nil, 'b'), chars(nil, 0xD7FF), chars(nil, 0xE000), chars(nil, 0xFFFF), chars(nil, 0x10000), chars(nil, api.MaxRune)},
		[]api.Array{text(""), text("A"), text("a"), text("a a"), text("aa"), text("ab"), text("abc"), text("b"), text("\uffff"), text("\U00010000")},
		[]api.Array{emptyChars(0, 0), emptyChars(0, 2), emptyChars(1, 0), chars([]int{1, 2}, 'a', 'b'), chars([]int{2, 2}, 'a', 'b', 'a', 'a')},
		[]api.Array{boxed(nil, num(3)), boxed(nil, num(4)), boxed(nil, empty(0)), boxed(nil, vec(2, 1)), boxed(nil, vec(3)), boxed(nil, empty(0, 3)), boxed(nil, empty(0, 5)), boxed(nil, empty(1, 0)), boxed(nil, chars(nil, 'z')), boxed(nil, text("")), boxed(nil, text("a"))},
		[]api.Array{nest(num(1), 2), nest(num(2), 2), nest(text("x"), 2), nest(num(0), 3), nest(num(0), api.MaxNest), nest(emptyBoxes(0), api.MaxNest), boxed(nil, emptyBoxes(0))},
		[]api.Array{emptyBoxes(0), box(num(1)), box(num(1), num(1)), box(num(1), text("a")), box(num(2)), box(empty(0)), box(empty(0), num(9)), box(empty(0, 3), num(9)), box(empty(0, 3), num(10)), box(empty(0, 5), num(9)), box(text("")), box(box(), num(1)), box(box(num(5)))},
		[]api.Array{emptyBoxes(0, 2), emptyBoxes(3, 0), boxed([]int{1, 2}, num(1), vec(1)), boxed([]int{2, 2}, num(1), vec(1), num(0), num(0)), boxed([]int{1, 2}, num(1), vec(2)), boxed([]int{1, 1}, text("a"))},
	)
}

// below returns a function that returns numbers from 0 to n - 1, which always are the same ones.
func below() func(n int) int {
	state := uint64(1)
	return func(n int) int {
		state = state*6364136223846793005 + 1442695040888963407
		return int(state>>33) % n
	}
}

// varied returns count arrays with few different elements and small dimensions, so that many of them have equal cells.
func varied(count int) []api.Array {
	pick := below()
	var make func(deep int) api.Array
	make = func(deep int) api.Array {
		a := api.Array{Kind: api.Kind(1 + pick(3))}
		if deep == 0 {
			a.Kind = api.Kind(1 + pick(2))
		}
		for range pick(5) {
			a.Shape = append(a.Shape, pick(4)*pick(8)/5)
		}
		for range shape.Size(a.Shape) {
			if a.Kind == api.Boxed {
				a.Items = append(a.Items, make(deep-1))
			} else {
				a.Nums = append(a.Nums, pick(16)/14)
			}
		}
		return a
	}
	list := []api.Array{}
	for len(list) < count {
		if a := make(2); array.Weight(a) < 300 {
			list = append(list, a)
		}
	}
	return list
}

// broken returns arrays that are not valid, one for each reason, on the outside and within a box.
func broken() []api.Array {
	list := []api.Array{
		{}, {Shape: []int{0}}, {Kind: 4, Nums: []int{1}}, {Kind: -1, Shape: []int{2}, Items: []api.Array{num(1), num(2)}}, {Kind: math.MaxInt},
		ints(repeat(1, api.MaxRank+1), 1), chars(repeat(0, api.MaxRank+1)), ints([]int{-1}), boxed([]int{0, -2}), ints([]int{-1, -1}, 1), ints([]int{math.MinInt}), ints([]int{math.MaxInt}),
		ints([]int{0, api.MaxSize + 1}), chars([]int{1 << 32, 1 << 32}), long(api.MaxSize + 1),
		ints(nil), ints([]int{2}, 1), ints([]int{2}, 1, 2, 3), ints([]int{0}, 1), boxed(nil), boxed([]int{0}, num(1)), boxed([]int{2, 2}, num(1)), chars([]int{2, 2}, 'a', 'b', 'c'),
		{Kind: api.Int, Nums: []int{1}, Items: []api.Array{num(1)}}, {Kind: api.Boxed, Shape: []int{0}, Nums: []int{1}},
		ints(nil, api.MaxNum+1), ints([]int{2}, 0, math.MinInt), chars(nil, 0xD800), chars([]int{1}, 0xDFFF), chars([]int{2}, 'a', -1), chars(nil, api.MaxRune+1),
	}
	for _, a := range slices.Clone(list) {
		list = append(list, boxed(nil, a), box(num(1), a), boxed([]int{1, 1}, boxed([]int{1}, a)))
	}
	return append(list, nest(num(1), api.MaxNest+1), nest(emptyBoxes(0), api.MaxNest+1), heavy(api.MaxWeight+1))
}

// brief returns a list of numbers, an array or a list of arrays as text of a bounded length.
func brief(v any) string {
	s := ""
	switch v := v.(type) {
	case []int:
		s = strings.Trim(fmt.Sprint(v[:min(len(v), 50)]), "[]")
	case api.Array:
		s = fmt.Sprintf("(kind %d, shape %s: %s%s)", v.Kind, brief(v.Shape), brief(v.Nums), brief(v.Items[:min(len(v.Items), 2)]))
	case []api.Array:
		for _, a := range v[:min(len(v), 5)] {
			s += brief(a)
		}
	}
	return s
}

// copied returns a copy of a in which an empty list is nil, or, if roomy is true, every list has numbers and items behind its end.
func copied(a api.Array, roomy bool) api.Array {
	result := api.Array{Kind: a.Kind}
	if roomy {
		result.Shape, result.Nums, result.Items = repeat(-7, 9), repeat(-7, len(a.Nums)+9), slices.Repeat([]api.Array{{}}, len(a.Items)+9)
	}
	result.Shape, result.Nums, result.Items = append(result.Shape[:0], a.Shape...), append(result.Nums[:0], a.Nums...), result.Items[:0]
	for _, item := range a.Items {
		result.Items = append(result.Items, copied(item, roomy))
	}
	return result
}

// major returns the major cells of a, which must have a rank of 1 or more. They share the memory of a.
func major(a api.Array) []api.Array {
	var cells []api.Array
	for i := range a.Shape[0] {
		c := api.Array{Kind: a.Kind, Shape: a.Shape[1:]}
		size := shape.Size(c.Shape)
		if a.Kind == api.Boxed {
			c.Items = a.Items[i*size : (i+1)*size]
		} else {
			c.Nums = a.Nums[i*size : (i+1)*size]
		}
		cells = append(cells, c)
	}
	return cells
}

// expectContents is the order of contents by the chapter's words.
func expectContents(a, b api.Array) int {
	if len(a.Shape) == 0 && a.Kind == api.Boxed {
		return expectOrder(a.Items[0], b.Items[0])
	}
	if len(a.Shape) == 0 {
		return cmp.Compare(a.Nums[0], b.Nums[0])
	}
	first, second := major(a), major(b)
	for i := range first {
		if i < len(second) {
			if c := expectContents(first[i], second[i]); c != 0 {
				return c
			}
		}
	}
	return cmp.Compare(len(first), len(second))
}

// expectOrder is the order of valid arrays by the chapter's words.
func expectOrder(a, b api.Array) int {
	switch {
	case a.Kind != b.Kind:
		return cmp.Compare(a.Kind, b.Kind)
	case len(a.Shape) != len(b.Shape):
		return cmp.Compare(len(a.Shape), len(b.Shape))
	}
	if c := expectContents(a, b); c != 0 {
		return c
	}
	for axis, d := range a.Shape {
		if c := cmp.Compare(d, b.Shape[axis]); c != 0 {
			return c
		}
	}
	return 0
}

// expectSorted is what P603 says for valid arrays.
func expectSorted(l []api.Array) []int {
	var indices []int
	for i, a := range l {
		at := len(indices)
		for at > 0 && expectOrder(l[indices[at-1]], a) > 0 {
			at--
		}
		indices = slices.Insert(indices, at, i)
	}
	return indices
}

// checkOrder checks all calls for a and b in both directions.
func checkOrder(t *testing.T, a, b api.Array, want int) {
	t.Helper()
	if c := Compare(a, b); c != want {
		t.Errorf("Compare(%s, %s) = %d; want %d", brief(a), brief(b), c, want)
	}
	if c := Compare(b, a); c != -want {
		t.Errorf("Compare(%s, %s) = %d; want %d", brief(b), brief(a), c, -want)
	}
	if less := Less(a, b); less != (want < 0) {
		t.Errorf("Less(%s, %s) = %t", brief(a), brief(b), less)
	}
	if less := Less(b, a); less != (want > 0) {
		t.Errorf("Less(%s, %s) = %t", brief(b), brief(a), less)
	}
}

// checkSorted checks Sorted. The indices of a list without arrays may be nil.
func checkSorted(t *testing.T, l []api.Array, want ...int) {
	t.Helper()
	if got := Sorted(l); !slices.Equal(got, want) {
		t.Errorf("Sorted(%s) = %s; want %s", brief(l), brief(got), brief(want))
	}
}

// checkInTime fails the test if call takes far longer than it needs.
func checkInTime(t *testing.T, call func()) {
	t.Helper()
	done := make(chan struct{})
	go func() {
		defer close(done)
		call()
	}()
	select {
	case <-done:
	case <-time.After(30 * time.Second):
		t.Fatal("the call takes too long")
	}
}

func TestP601Pure(t *testing.T) {
	list := append(append(chain(), varied(60)...), broken()...)
	first, second := make([]api.Array, len(list)), make([]api.Array, len(list))
	for i, a := range list {
		first[i], second[i] = copied(a, false), copied(a, false)
	}
	call := func() string {
		var results []int
		for i := range first {
			for j := range second {
				results = append(results, Compare(first[i], second[j]))
				if Less(first[i], second[j]) {
					results = append(results, 5)
				}
			}
		}
		return fmt.Sprint(results, Sorted(first), Sorted(second[:20]))
	}
	results := call()
	if call() != results {
		t.Error("the results of the same calls differ")
	}
	for i, a := range list {
		if want := copied(a, false); !reflect.DeepEqual(first[i], want) || !reflect.DeepEqual(second[i], want) {
			t.Errorf("the calls for %s change it to %s and %s", brief(want), brief(first[i]), brief(second[i]))
		}
	}
}

func TestP601RoomBehindLists(t *testing.T) {
	list := append(chain(), varied(60)...)
	roomy, tight := make([]api.Array, len(list)), make([]api.Array, len(list))
	for i, a := range list {
		roomy[i], tight[i] = copied(a, true), copied(a, false)
	}
	for i, a := range list {
		for j, b := range list {
			want := expectOrder(a, b)
			checkOrder(t, roomy[i], tight[j], want)
			checkOrder(t, roomy[i], roomy[j], want)
		}
		whole := roomy[i].Shape[:cap(roomy[i].Shape)]
		if slices.ContainsFunc(whole[len(a.Shape):], func(n int) bool { return n != -7 }) {
			t.Errorf("the calls write behind the shape of %s", brief(a))
		}
	}
	checkSorted(t, roomy, expectSorted(list)...)
}

func TestP601NoSharedMemory(t *testing.T) {
	list := []api.Array{vec(2), vec(1, 1), vec(1), vec(2)}
	for _, l := range [][]api.Array{list, list[:1], {num(1), num(2), num(3)}} {
		first, second := Sorted(l), Sorted(l)
		want := slices.Clone(first)
		for i := range first {
			first[i] = -9
		}
		if !slices.Equal(second, want) || !slices.Equal(Sorted(l), want) {
			t.Errorf("two results for %s share memory", brief(l))
		}
	}
	if !reflect.DeepEqual(list, []api.Array{vec(2), vec(1, 1), vec(1), vec(2)}) {
		t.Errorf("Sorted or a change of its result changes the list to %s", brief(list))
	}
}

func TestP601Ends(t *testing.T) {
	// All cells of these items are empty, so 2^18 items weigh no more than a valid array, but together they have 2^34 cells.
	weightless := func(last api.Array) api.Array {
		part := boxed([]int{api.MaxSize - 2}, slices.Repeat([]api.Array{empty(api.MaxSize, 0)}, api.MaxSize-2)...)
		return box(part, part, part, box(append(slices.Clone(part.Items[1:]), last)...))
	}
	checkInTime(t, func() {
		checkOrder(t, weightless(empty(api.MaxSize, 0)), weightless(empty(api.MaxSize, 0)), 0)
		checkOrder(t, weightless(empty(api.MaxSize-1, 0)), weightless(empty(api.MaxSize, 0)), -1)
		checkOrder(t, weightless(empty(256, 256, 0)), weightless(empty(api.MaxSize, 0)), 1)
	})
	checkInTime(t, func() {
		slim := append([]int{api.MaxSize}, repeat(1, api.MaxRank-1)...)
		a, b := ints(slim, make([]int, api.MaxSize)...), ints(slim, make([]int, api.MaxSize)...)
		checkOrder(t, a, b, 0)
		b.Nums[api.MaxSize-1] = 1
		checkOrder(t, a, b, -1)
	})
	checkInTime(t, func() { checkSorted(t, []api.Array{num(1), within(), num(0)}) })
	checkOrder(t, within(), within(), 0)
	checkOrder(t, within(), num(5), 0)
}

func TestP602Examples(t *testing.T) {
	checkOrder(t, vec(1, 2), vec(1, 2, 0), -1)
	checkOrder(t, vec(1, 2), vec(2), -1)
	checkOrder(t, vec(1, 2, 0), vec(2), -1)
	checkOrder(t, num(7), chars(nil, 'a'), -1)
	checkOrder(t, num(7), text("a"), -1)
	checkOrder(t, counted(2, 2), ints([]int{2, 2}, 1, 3, 0, 0), -1)
	checkOrder(t, counted(1, 2), counted(2, 2), -1)
	checkOrder(t, empty(0, 3), empty(0, 5), -1)
	for _, n := range []int{-api.MaxNum, 0, 7, api.MaxNum} {
		for _, v := range []api.Array{empty(0), vec(-api.MaxNum), vec(0), vec(0, 0), long(api.MaxSize)} {
			checkOrder(t, num(n), v, -1)
		}
	}
}

func TestP602Chain(t *testing.T) {
	list := chain()
	for i, a := range list {
		for j, b := range list {
			checkOrder(t, copied(a, false), b, expectOrder(a, b))
			// Within a kind and a rank the arrays are written in ascending order.
			if a.Kind == b.Kind && len(a.Shape) == len(b.Shape) {
				checkOrder(t, a, b, cmp.Compare(i, j))
			}
		}
	}
}

func TestP602KindsThenRanks(t *testing.T) {
	groups := [][]api.Array{
		{num(api.MaxNum), num(0)}, {vec(9, 9), empty(0)}, {empty(0, 0), counted(2, 2)}, {empty(0, 0, 0), counted(1, 1, 1)}, {ints(repeat(1, api.MaxRank), -5), empty(repeat(0, api.MaxRank)...)},
		{chars(nil, 0), chars(nil, api.MaxRune)}, {text("z"), text("")}, {emptyChars(0, 0), chars([]int{1, 1}, 'a')}, {chars(repeat(1, api.MaxRank), 0), emptyChars(repeat(0, api.MaxRank)...)},
		{boxed(nil, text("z")), boxed(nil, num(0))}, {box(num(-1)), emptyBoxes(0)}, {emptyBoxes(0, 0), boxed([]int{1, 1}, num(-3))}, {boxed(repeat(1, api.MaxRank), num(0)), emptyBoxes(repeat(0, api.MaxRank)...)},
	}
	for i, group := range groups {
		for j, other := range groups {
			for _, a := range group {
				for _, b := range other {
					if i != j {
						checkOrder(t, a, b, cmp.Compare(i, j))
						// The items of boxes are ordered as arrays are.
						checkOrder(t, boxed(nil, a), boxed(nil, b), cmp.Compare(i, j))
						checkOrder(t, box(num(1), a, num(5)), box(num(1), b, num(2)), cmp.Compare(i, j))
					}
				}
			}
		}
	}
}

func TestP602EveryShape(t *testing.T) {
	// All shapes of up to three small dimensions, for each kind with elements that are all equal, so that only the shapes decide, and with others.
	shapes := [][]int{nil}
	for i := 0; i < len(shapes); i++ {
		for d := 0; d < 4 && len(shapes[i]) < 3; d++ {
			shapes = append(shapes, append(slices.Clone(shapes[i]), d))
		}
	}
	var list []api.Array
	for _, s := range shapes {
		for _, from := range []api.Array{num(0), vec(0, 0, 0, 1), vec(1, 0), text("a"), box(empty(0, 1), empty(0, 1), empty(0, 2)), box(box())} {
			if a, e := array.Of(s, from); e != api.OK {
				t.Fatalf("no array of the shape %v: %d", s, e)
			} else {
				list = append(list, a)
			}
		}
	}
	for _, a := range list {
		for _, b := range list {
			if c, want := Compare(a, b), expectOrder(a, b); c != want || Less(a, b) != (want < 0) {
				t.Fatalf("Compare(%v, %v) = %d and Less = %t; want %d", a, b, c, Less(a, b), want)
			}
		}
	}
}

func TestP602EveryPair(t *testing.T) {
	list := append(chain(), varied(300)...)
	for _, a := range list {
		for _, b := range list {
			if c, want := Compare(a, b), expectOrder(a, b); c != want || Less(a, b) != (want < 0) {
				t.Fatalf("Compare(%s, %s) = %d and Less = %t; want %d", brief(a), brief(b), c, Less(a, b), want)
			}
		}
	}
}

func TestP602EveryElement(t *testing.T) {
	// Each element of an array decides if those before it are equal, whatever the ones behind it are.
	for _, s := range [][]int{nil, {1}, {7}, {2, 3}, {3, 2}, {4, 1, 3}, {2, 3, 2, 2}, {1, 2, 1, 2, 1, 2, 1, 2}} {
		size := shape.Size(s)
		for i := range size {
			a, b := counted(s...), counted(s...)
			a.Nums[i]--
			for j := i + 1; j < size; j++ {
				a.Nums[j] = 100
			}
			checkOrder(t, a, b, -1)
			a.Kind, b.Kind = api.Char, api.Char
			checkOrder(t, a, b, -1)
			first, second := boxed(s), boxed(s)
			for j := range size {
				first.Items, second.Items = append(first.Items, vec(5, a.Nums[j])), append(second.Items, vec(5, b.Nums[j]))
			}
			checkOrder(t, first, second, -1)
		}
	}
}

func TestP602Limits(t *testing.T) {
	a, b := long(api.MaxSize), long(api.MaxSize)
	checkOrder(t, a, b, 0)
	b.Nums[api.MaxSize-1] = 1
	checkOrder(t, a, b, -1)
	checkOrder(t, long(api.MaxSize-1), a, -1)
	checkOrder(t, ints([]int{256, 256}, a.Nums...), ints([]int{256, 256}, b.Nums...), -1)
	checkOrder(t, ints(repeat(4, api.MaxRank), a.Nums...), ints(repeat(4, api.MaxRank), b.Nums...), -1)
	checkOrder(t, ints([]int{512, 128}, a.Nums...), ints([]int{256, 256}, a.Nums...), -1)
	checkOrder(t, heavy(api.MaxWeight), heavy(api.MaxWeight), 0)
	checkOrder(t, heavy(api.MaxWeight-1), heavy(api.MaxWeight), -1)
	checkOrder(t, nest(num(1), api.MaxNest), nest(num(2), api.MaxNest), -1)
	checkOrder(t, nest(num(2), api.MaxNest), nest(num(2), api.MaxNest), 0)
	checkOrder(t, nest(num(2), api.MaxNest-1), nest(num(1), api.MaxNest), -1)
	checkOrder(t, empty(api.MaxSize, 0), empty(api.MaxSize, 0), 0)
	checkOrder(t, empty(api.MaxSize-1, 0), empty(api.MaxSize, 0), -1)
	checkOrder(t, empty(api.MaxSize, 0), ints([]int{1, 1}, -api.MaxNum), -1)
	checkOrder(t, empty(0, api.MaxSize), empty(1, 0), -1)
	checkOrder(t, empty(256, 256, 0), empty(256, 0, 256), 1)
}

func TestP602BrokenArrays(t *testing.T) {
	list := append(chain(), varied(30)...)
	for _, a := range broken() {
		checkOrder(t, a, a, 0)
		for _, b := range list {
			checkOrder(t, a, b, 0)
		}
	}
	for _, a := range broken()[:40] {
		for _, b := range broken()[:40] {
			checkOrder(t, a, b, 0)
		}
	}
}

func TestP603Examples(t *testing.T) {
	checkSorted(t, []api.Array{vec(2), vec(1, 1), vec(1), vec(2)}, 2, 1, 0, 3)
	checkSorted(t, nil)
	checkSorted(t, []api.Array{})
	checkSorted(t, []api.Array{box(text("a"))}, 0)
	checkSorted(t, []api.Array{text("b"), vec(1), num(5), box(), text("a"), empty(0, 0)}, 2, 1, 5, 4, 0, 3)
	checkSorted(t, []api.Array{empty(0, 5), empty(0, 3), empty(0, 5), empty(0, 3)}, 1, 3, 0, 2)
}

func TestP603EveryShortList(t *testing.T) {
	// All lists of up to five arrays of which three are different, so that each way in which equal ones occur is there.
	kinds := [][3]api.Array{{num(1), num(2), num(3)}, {vec(1), vec(1, 0), vec(2)}, {empty(0, 2), empty(0, 3), empty(1, 0)}, {num(9), text(""), box()}, {boxed(nil, num(0)), boxed(nil, vec(0)), boxed(nil, text("0"))}}
	for _, values := range kinds {
		lists := [][]api.Array{nil}
		for i := 0; i < len(lists); i++ {
			checkSorted(t, lists[i], expectSorted(lists[i])...)
			for _, a := range values {
				if len(lists[i]) < 5 {
					lists = append(lists, append(slices.Clone(lists[i]), a))
				}
			}
		}
	}
}

func TestP603LongLists(t *testing.T) {
	list := append(varied(700), chain()...)
	list = append(list, list...)
	checkSorted(t, list, expectSorted(list)...)
	slices.Reverse(list)
	checkSorted(t, list, expectSorted(list)...)
	var numbers, equal []api.Array
	var indices []int
	const count = 100000
	for i := range count {
		numbers, equal, indices = append(numbers, num(count-1-i)), append(equal, text("same")), append(indices, i)
	}
	checkSorted(t, equal, indices...)
	slices.Reverse(indices)
	checkSorted(t, numbers, indices...)
}

func TestP603Stable(t *testing.T) {
	pick := below()
	var list []api.Array
	places := map[int][]int{}
	for i := range 5000 {
		n := pick(7)
		list, places[n] = append(list, vec(n, 0)), append(places[n], i)
	}
	var want []int
	for n := range 7 {
		want = append(want, places[n]...)
	}
	checkSorted(t, list, want...)
}

func TestP603BrokenArrays(t *testing.T) {
	for _, a := range broken() {
		for _, l := range [][]api.Array{{a}, {a, num(1)}, {num(1), a}, {vec(2), num(1), a, text("x")}, {a, a}} {
			if got := Sorted(l); got != nil {
				t.Errorf("Sorted(%s) = %v; want nil", brief(l), got)
			}
		}
	}
}

func TestP604TotalOrder(t *testing.T) {
	list := append(chain(), varied(150)...)
	for _, a := range list[:40] {
		list = append(list, copied(a, true))
	}
	table := make([][]int, len(list))
	for i, a := range list {
		for j, b := range list {
			c := Compare(a, b)
			table[i] = append(table[i], c)
			if (c == 0) != array.Same(a, b) {
				t.Errorf("Compare(%s, %s) = %d, but Same = %t", brief(a), brief(b), c, array.Same(a, b))
			}
			if i == j && c != 0 {
				t.Errorf("Compare(%s) with itself = %d", brief(a), c)
			}
		}
	}
	for i := range list {
		for j := range list {
			if table[i][j] != -table[j][i] {
				t.Errorf("Compare(%s, %s) = %d, but %d in the other direction", brief(list[i]), brief(list[j]), table[i][j], table[j][i])
			}
			for k := range list {
				if table[i][j] <= 0 && table[j][k] <= 0 && table[i][k] > 0 {
					t.Fatalf("%s, %s and %s are in no order", brief(list[i]), brief(list[j]), brief(list[k]))
				}
			}
		}
	}
}

func TestP604SortedIsOrdered(t *testing.T) {
	list := append(varied(400), chain()...)
	indices := Sorted(list)
	for at := range indices {
		for before := range at {
			i, j := indices[before], indices[at]
			c := Compare(list[i], list[j])
			if c > 0 || c == 0 && i > j {
				t.Fatalf("Sorted puts %d, %s, before %d, %s", i, brief(list[i]), j, brief(list[j]))
			}
		}
	}
	if slices.Sort(indices); len(indices) != len(list) || indices[0] != 0 || indices[len(list)-1] != len(list)-1 || len(slices.Compact(indices)) != len(list) {
		t.Error("Sorted does not return each index once")
	}
}

func TestP605Vectors(t *testing.T) {
	words := [][]int{nil}
	for i := 0; i < len(words); i++ {
		for n := 0; n < 3 && len(words[i]) < 4; n++ {
			words = append(words, append(slices.Clone(words[i]), n))
		}
	}
	items := []api.Array{num(5), empty(0, 2), text("")}
	for _, first := range words {
		for _, second := range words {
			want := slices.Compare(first, second)
			checkOrder(t, vec(first...), vec(second...), want)
			checkOrder(t, chars([]int{len(first)}, first...), chars([]int{len(second)}, second...), want)
			a, b := box(), box()
			for _, n := range first {
				a = box(append(a.Items, items[n])...)
			}
			for _, n := range second {
				b = box(append(b.Items, items[n])...)
			}
			checkOrder(t, a, b, want)
		}
	}
	for i, word := range []string{"", "a", "aa", "ab", "abc", "abd", "b", "ba", "z", "é", "世"} {
		for j, other := range []string{"", "a", "aa", "ab", "abc", "abd", "b", "ba", "z", "é", "世"} {
			checkOrder(t, text(word), text(other), cmp.Compare(i, j))
		}
	}
}
