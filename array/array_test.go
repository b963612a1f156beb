package array

import (
	"fmt"
	"math"
	"math/big"
	"reflect"
	"slices"
	"strings"
	"testing"
	"unicode/utf8"

	"arraylang/api"
)

// ints returns the Int array of the given shape and numbers; chars and boxed do so for the other kinds.
func ints(shape []int, nums ...int) api.Array {
	return api.Array{Kind: api.Int, Shape: shape, Nums: nums}
}

func chars(shape []int, nums ...int) api.Array {
	return api.Array{Kind: api.Char, Shape: shape, Nums: nums}
}

func boxed(shape []int, items ...api.Array) api.Array {
	return api.Array{Kind: api.Boxed, Shape: shape, Items: items}
}

// long returns an Int vector of zeros.
func long(size int) api.Array { return ints([]int{size}, make([]int, size)...) }

// nest returns a within count boxes.
func nest(a api.Array, count int) api.Array {
	for range count {
		a = boxed(nil, a)
	}
	return a
}

// heavy returns a boxed vector of the given weight, which must be more than 200000.
func heavy(weight int) api.Array {
	return boxed([]int{4}, long(api.MaxSize), long(api.MaxSize), long(api.MaxSize), long(weight-4-3*api.MaxSize))
}

// counted returns the Int array of the given shape whose elements count from 1.
func counted(shape ...int) api.Array {
	var nums []int
	for n := range multiply(shape) {
		nums = append(nums, n+1)
	}
	return ints(shape, nums...)
}

func multiply(list []int) int {
	product := 1
	for _, d := range list {
		product *= d
	}
	return product
}

func repeat(d, count int) []int { return slices.Repeat([]int{d}, count) }

// valid returns valid arrays of little weight.
func valid() []api.Array {
	return []api.Array{
		ints(nil, 0), ints(nil, -5), ints(nil, api.MaxNum), ints(nil, -api.MaxNum), ints([]int{0}), ints([]int{1}, 7), ints([]int{3}, 1, 2, 3),
		ints([]int{0, 3}), ints([]int{3, 0}), ints([]int{0, 256, 256}), ints([]int{256, 0, 256}), ints(repeat(0, api.MaxRank)), ints([]int{api.MaxSize, 0}),
		counted(2, 3), counted(3, 2), counted(1, 1, 6), counted(2, 2, 2), counted(repeat(1, api.MaxRank)...), counted(1, 2, 1, 2, 1, 2, 1, 2),
		chars(nil, ' '), chars(nil, 0), chars(nil, 0xD7FF), chars(nil, 0xE000), chars(nil, api.MaxRune), chars([]int{0}), chars([]int{2}, 'h', 'i'),
		chars([]int{2, 2}, 'a', 'b', 'c', 'd'), chars([]int{0, 7}), chars([]int{1}, 7),
		boxed([]int{0}), boxed([]int{2, 0}), boxed(nil, ints([]int{0})), boxed(nil, boxed([]int{0})), boxed(nil, ints(nil, 5)), boxed([]int{1}, ints(nil, 5)),
		boxed([]int{2}, counted(2, 2), chars([]int{2}, 'a', 'b')), boxed([]int{2, 2}, ints(nil, 1), chars(nil, 2), boxed(nil, ints(nil, 3)), ints([]int{0})),
		boxed([]int{2}, boxed([]int{2}, counted(2), counted(1)), boxed([]int{1}, counted(3))), nest(ints(nil, 1), api.MaxNest), nest(boxed([]int{0}), api.MaxNest),
		boxed([]int{3}, ints(nil, 0), nest(counted(2), api.MaxNest-1), ints(nil, 0)),
	}
}

// broken returns arrays of little weight that are not valid, some of them for several reasons.
func broken() []api.Array {
	return []api.Array{
		{}, {Shape: []int{0}}, {Kind: 4, Nums: []int{1}}, {Kind: -1}, {Kind: math.MaxInt, Shape: []int{-1}}, {Kind: 7, Shape: []int{1}, Nums: []int{9}, Items: []api.Array{{}, ints(nil, 1)}},
		ints(repeat(1, api.MaxRank+1), 5), chars(repeat(0, api.MaxRank+1)), boxed(append(repeat(0, api.MaxRank), -1)),
		ints([]int{-1}), ints([]int{-1}, 3), ints([]int{0, -1}), ints([]int{api.MaxSize + 1, -1}), boxed([]int{math.MinInt}), chars([]int{-2, -2}, 1, 2, 3, 4),
		ints([]int{api.MaxSize + 1}), ints([]int{api.MaxSize + 1, 0}), ints([]int{0, 256, 257}), boxed([]int{math.MaxInt, 0}), chars([]int{1 << 32, 1 << 32}),
		ints(nil), ints(nil, 1, 2), ints([]int{2}, 1), ints([]int{2}, 1, 2, 3), ints([]int{0}, 0), ints([]int{2, 2}, 1, 2, 3, 4, 5), chars(nil), boxed(nil), boxed([]int{0}, ints(nil, 1)),
		{Kind: api.Int, Nums: []int{1}, Items: []api.Array{ints(nil, 1)}}, {Kind: api.Int, Items: []api.Array{ints(nil, 1)}}, {Kind: api.Char, Shape: []int{0}, Items: []api.Array{{}}},
		{Kind: api.Boxed, Nums: []int{1}}, {Kind: api.Boxed, Nums: []int{1}, Items: []api.Array{ints(nil, 1)}}, {Kind: api.Boxed, Shape: []int{0}, Nums: []int{0}},
		ints(nil, api.MaxNum+1), ints(nil, -api.MaxNum-1), ints([]int{2}, 0, math.MinInt), ints([]int{1}, math.MaxInt),
		chars(nil, -1), chars(nil, api.MaxRune+1), chars(nil, 0xD800), chars(nil, 0xDFFF), chars([]int{2}, 'a', math.MinInt), chars([]int{2}, math.MaxInt, 'a'), chars(nil, 1<<32+'a'),
		boxed(nil, api.Array{}), boxed([]int{2}, ints(nil, 1), ints(nil)), boxed([]int{2}, chars(nil, -1), ints(nil, 1)), boxed(nil, boxed(nil, ints(nil, 1, 2))),
		nest(ints(nil, 1), api.MaxNest+1), nest(ints(nil, 1), api.MaxNest+2), nest(ints(nil), api.MaxNest+1), nest(api.Array{}, 3), boxed([]int{2}, ints(nil, 1), nest(ints([]int{0}), api.MaxNest)),
	}
}

func all() []api.Array { return append(valid(), broken()...) }

// depth is the depth of a in DOC.md's words.
func depth(a api.Array) int {
	deepest := 0
	for _, item := range a.Items {
		deepest = max(deepest, 1+depth(item))
	}
	return deepest
}

// weigh is the weight of a without a limit.
func weigh(a api.Array) int {
	switch a.Kind {
	case api.Int, api.Char:
		return len(a.Nums)
	case api.Boxed:
		total := len(a.Items)
		for _, item := range a.Items {
			total += weigh(item)
		}
		return total
	}
	return 0
}

// judgeShape is what P302 and P307 say about a shape, in exact arithmetic.
func judgeShape(s []int) api.Errno {
	product := big.NewInt(1)
	for _, d := range s {
		if d != 0 {
			product.Mul(product, big.NewInt(int64(d)))
		}
	}
	switch {
	case len(s) > api.MaxRank:
		return api.ErrRank
	case slices.ContainsFunc(s, func(d int) bool { return d < 0 }):
		return api.ErrLength
	case product.Cmp(big.NewInt(api.MaxSize)) > 0:
		return api.ErrLimit
	}
	return api.OK
}

// judge is what P302 says, clause by clause and without regard to time.
func judge(a api.Array) api.Errno {
	nums, items := len(a.Nums), 0
	switch a.Kind {
	case api.Int, api.Char:
		items = len(a.Items)
	case api.Boxed:
		nums, items = len(a.Items), len(a.Nums)
	default:
		return api.ErrKind
	}
	if e := judgeShape(a.Shape); e != api.OK {
		return e
	}
	if nums != multiply(a.Shape) || items != 0 {
		return api.ErrLength
	}
	for _, n := range a.Nums {
		if a.Kind == api.Int && (n < -(1<<62-1) || n > 1<<62-1) || a.Kind == api.Char && (n < 0 || n > 0x10FFFF || !utf8.ValidRune(rune(n))) {
			return api.ErrDomain
		}
	}
	for _, item := range a.Items {
		if judge(item) != api.OK {
			return api.ErrDomain
		}
	}
	if depth(a) > api.MaxNest || weigh(a) > api.MaxWeight {
		return api.ErrLimit
	}
	return api.OK
}

// duplicate returns a copy of a in which an empty list is nil, or not nil if filled is true.
func duplicate(a api.Array, filled bool) api.Array {
	list := func(l []int) []int {
		if len(l) == 0 && !filled {
			return nil
		}
		return append([]int{}, l...)
	}
	result := api.Array{Kind: a.Kind, Shape: list(a.Shape), Nums: list(a.Nums)}
	if filled {
		result.Items = []api.Array{}
	}
	for _, item := range a.Items {
		result.Items = append(result.Items, duplicate(item, filled))
	}
	return result
}

// equal reports whether a and b are equal, where an empty list equals nil.
func equal(a, b api.Array) bool { return reflect.DeepEqual(duplicate(a, false), duplicate(b, false)) }

// brief returns a as text of a bounded length.
func brief(a api.Array) string {
	text := fmt.Sprint(a)
	if len(text) > 200 {
		text = text[:200] + "..."
	}
	return text
}

func check(t *testing.T, call string, got, want api.Array) {
	t.Helper()
	if !equal(got, want) {
		t.Errorf("%s = %s; want %s", call, brief(got), brief(want))
	}
}

func checkRight(t *testing.T, a api.Array, want api.Errno) {
	t.Helper()
	if e := Right(a); e != want {
		t.Errorf("Right(%s) = %d; want %d", brief(a), e, want)
	}
}

func checkOf(t *testing.T, shape []int, from, want api.Array, e api.Errno) {
	t.Helper()
	if got, found := Of(shape, from); !equal(got, want) || found != e {
		t.Errorf("Of(%v, %s) = %s, %d; want %s, %d", shape, brief(from), brief(got), found, brief(want), e)
	}
}

// arrays returns the results of all calls for a, b and i that return arrays.
func arrays(a, b api.Array, i int) []api.Array {
	of, _ := Of(a.Shape, b)
	again, _ := Of([]int{3}, a)
	return []api.Array{
		Scalar(i), Vector(a.Nums...), Text("text"), Box(a), Boxes(a, b), Boxes(a.Items...), Fill(a), of, again, At(a, i), At(a, 0), Clone(a),
	}
}

// results returns the results of all calls for a, b and i as text.
func results(a, b api.Array, i int) string {
	_, e := Of(a.Shape, b)
	_, again := Of([]int{3}, a)
	return fmt.Sprint(Right(a), Size(a), Weight(a), Same(a, b), e, again, arrays(a, b, i))
}

func TestP301Pure(t *testing.T) {
	list := all()
	for _, a := range list {
		for _, b := range list {
			for _, i := range []int{0, 2, -1, math.MaxInt} {
				first, second := duplicate(a, false), duplicate(b, false)
				text := results(first, second, i)
				if !equal(first, a) || !equal(second, b) {
					t.Fatalf("the calls for %v, %v and %d change them to %v and %v", a, b, i, first, second)
				}
				if again := results(first, second, i); again != text {
					t.Fatalf("the calls for %v, %v and %d return %s, then %s", a, b, i, text, again)
				}
			}
		}
	}
}

func TestP301NilIsEmpty(t *testing.T) {
	list := all()
	for _, a := range list {
		for _, b := range list {
			want := results(duplicate(a, false), duplicate(b, false), 1)
			for _, got := range []string{
				results(duplicate(a, true), duplicate(b, true), 1), results(duplicate(a, false), duplicate(b, true), 1), results(duplicate(a, true), duplicate(b, false), 1),
			} {
				if got != want {
					t.Fatalf("the calls for %v and %v return %s with nil lists, and %s with empty ones", a, b, want, got)
				}
			}
		}
	}
}

// addresses counts the places in memory that the lists of a reach, also those behind their ends.
func addresses(a api.Array, count map[any]int) {
	for _, l := range [][]int{a.Shape, a.Nums} {
		l = l[:cap(l)]
		for i := range l {
			count[&l[i]]++
		}
	}
	items := a.Items[:cap(a.Items)]
	for i := range items {
		count[&items[i]]++
		addresses(items[i], count)
	}
}

func checkSeparate(t *testing.T, call string, list ...api.Array) {
	t.Helper()
	count := map[any]int{}
	for _, a := range list {
		addresses(a, count)
	}
	for _, n := range count {
		if n != 1 {
			t.Fatalf("%s: an argument or a result shares memory", call)
		}
	}
}

func TestP301NoSharedMemory(t *testing.T) {
	list := append(all(), boxed([]int{2}, boxed([]int{2}, counted(2), counted(2, 2)), counted(1)))
	for _, a := range list {
		for _, b := range list {
			for i := range 2 {
				first, second := duplicate(a, false), duplicate(b, false)
				found := append(arrays(first, second, i), arrays(first, second, i)...)
				checkSeparate(t, fmt.Sprint(a, b), append(found, first, second)...)
			}
		}
	}
	shape := []int{2, 2}
	for _, from := range valid() {
		result, e := Of(shape, from)
		if e != api.OK {
			t.Fatalf("Of(%v, %v): %d", shape, from, e)
		}
		checkSeparate(t, "Of", result, api.Array{Shape: shape})
	}
}

func TestP301ArrayErrors(t *testing.T) {
	for _, a := range broken() {
		checkOf(t, []int{2}, a, api.Array{}, api.ErrArg)
		checkOf(t, repeat(-1, 9), a, api.Array{}, api.ErrArg)
	}
}

func TestP302Valid(t *testing.T) {
	for _, a := range append(valid(), long(api.MaxSize), counted(256, 256), counted(repeat(4, api.MaxRank)...), heavy(api.MaxWeight)) {
		checkRight(t, a, api.OK)
	}
}

// Every combination of these parts is tried, so that each pair of errors meets.
func TestP302AllCombinations(t *testing.T) {
	shapes := [][]int{
		nil, {0}, {1}, {2}, {3}, {1, 2}, {2, 0}, {-1}, {0, -1}, {-1, -2}, repeat(1, api.MaxRank), repeat(1, api.MaxRank+1), repeat(-1, api.MaxRank+1),
		repeat(api.MaxSize, api.MaxRank+1), {api.MaxSize + 1}, {api.MaxSize + 1, -1}, {256, 257, 0}, {256, 256, 0}, {1 << 32, 1 << 32},
	}
	nums := [][]int{nil, {5}, {-1}, {math.MaxInt}, {0xD800}, {1, 2}, {1, api.MaxRune + 1}, {math.MinInt, 2}, {1, 2, 3}}
	items := [][]api.Array{
		nil, {ints(nil, 1)}, {{}}, {ints(nil, 1), ints([]int{0})}, {ints(nil, 1), ints(nil)}, {chars(nil, -1), ints(nil, 1)},
		{nest(ints(nil, 1), api.MaxNest)}, {nest(ints(nil, 1), api.MaxNest+1)}, {nest(ints(nil, 1), api.MaxNest), {}}, {boxed([]int{0}), ints(nil, 1), chars(nil, 1)},
	}
	for _, kind := range []api.Kind{-1, 0, api.Int, api.Char, api.Boxed, 4, math.MinInt, math.MaxInt} {
		for _, s := range shapes {
			for _, n := range nums {
				for _, i := range items {
					a := api.Array{Kind: kind, Shape: s, Nums: n, Items: i}
					checkRight(t, a, judge(a))
				}
			}
		}
	}
}

func TestP302Items(t *testing.T) {
	for _, a := range all() {
		for _, outer := range []api.Array{
			a, boxed(nil, a), boxed([]int{1, 1}, a), boxed([]int{2}, a, ints(nil, 1)), boxed([]int{3}, ints(nil, 1), boxed([]int{0}), a),
			boxed([]int{2}, boxed(nil, a), ints(nil, 1)), boxed([]int{2}, ints(nil, 1), boxed([]int{2}, chars(nil, 1), a)), boxed([]int{2}, a),
		} {
			checkRight(t, outer, judge(outer))
		}
	}
}

func TestP302Kind(t *testing.T) {
	for _, kind := range []api.Kind{0, 4, -1, math.MinInt, math.MaxInt} {
		checkRight(t, api.Array{Kind: kind, Nums: []int{1}}, api.ErrKind)
		checkRight(t, api.Array{Kind: kind, Shape: repeat(-1, 9)}, api.ErrKind)
	}
}

func TestP302Shape(t *testing.T) {
	for _, kind := range []api.Kind{api.Int, api.Char, api.Boxed} {
		for _, c := range []struct {
			shape []int
			e     api.Errno
		}{
			{repeat(0, api.MaxRank), api.OK}, {repeat(0, api.MaxRank+1), api.ErrRank}, {append(repeat(0, api.MaxRank), -1), api.ErrRank}, {repeat(api.MaxSize, 9), api.ErrRank},
			{[]int{-1}, api.ErrLength}, {[]int{0, -1}, api.ErrLength}, {[]int{api.MaxSize + 1, -1}, api.ErrLength}, {[]int{math.MinInt}, api.ErrLength},
			{[]int{api.MaxSize, 0}, api.OK}, {[]int{api.MaxSize + 1, 0}, api.ErrLimit}, {[]int{api.MaxSize + 1}, api.ErrLimit},
			{[]int{0, 256, 256}, api.OK}, {[]int{256, 257, 0}, api.ErrLimit}, {[]int{1 << 32, 1 << 32}, api.ErrLimit}, {[]int{1}, api.ErrLength}, {nil, api.ErrLength},
		} {
			checkRight(t, api.Array{Kind: kind, Shape: c.shape}, c.e)
		}
	}
}

func TestP302Characters(t *testing.T) {
	for n := -2; n <= api.MaxRune+2; n++ {
		want := api.ErrDomain
		if n >= 0 && utf8.ValidRune(rune(n)) {
			want = api.OK
		}
		if e := Right(chars(nil, n)); e != want {
			t.Fatalf("Right of character %d = %d", n, e)
		}
	}
	checkRight(t, chars(nil, 1<<32), api.ErrDomain)
	checkRight(t, chars(nil, math.MinInt), api.ErrDomain)
	checkRight(t, ints(nil, 0xD800), api.OK)
	checkRight(t, ints(nil, -1), api.OK)
}

func TestP302EveryElement(t *testing.T) {
	for at := range 5 {
		a := long(5)
		a.Nums[at] = api.MaxNum
		checkRight(t, a, api.OK)
		a.Nums[at]++
		checkRight(t, a, api.ErrDomain)
		a.Nums[at] = -api.MaxNum
		checkRight(t, a, api.OK)
		a.Nums[at]--
		checkRight(t, a, api.ErrDomain)
		b := boxed([]int{5}, slices.Repeat([]api.Array{ints(nil, 1)}, 5)...)
		checkRight(t, b, api.OK)
		b.Items[at] = ints(nil)
		checkRight(t, b, api.ErrDomain)
	}
}

func TestP302Nesting(t *testing.T) {
	// An empty boxed array has no items, so it does not add to the depth.
	for _, inner := range []api.Array{ints(nil, 1), chars([]int{2}, 'a', 'b'), ints([]int{0}), boxed([]int{0}), boxed([]int{2, 0})} {
		checkRight(t, nest(inner, api.MaxNest-1), api.OK)
		checkRight(t, nest(inner, api.MaxNest), api.OK)
		checkRight(t, nest(inner, api.MaxNest+1), api.ErrLimit)
		checkRight(t, nest(inner, api.MaxNest+2), api.ErrDomain)
		checkRight(t, nest(inner, 10*api.MaxNest), api.ErrDomain)
		for _, count := range []int{api.MaxNest - 1, api.MaxNest, api.MaxNest + 1} {
			for at := range 3 {
				a := boxed([]int{3}, inner, inner, inner)
				a.Items[at] = nest(inner, count)
				checkRight(t, a, judge(a))
			}
		}
	}
	checkRight(t, nest(ints(nil, 1), 1<<16), api.ErrDomain)
	checkRight(t, nest(api.Array{}, api.MaxNest), api.ErrDomain)
	checkRight(t, nest(api.Array{}, api.MaxNest+1), api.ErrDomain)
}

func TestP302Weight(t *testing.T) {
	checkRight(t, heavy(api.MaxWeight), api.OK)
	checkRight(t, heavy(api.MaxWeight+1), api.ErrLimit)
	checkRight(t, boxed(nil, heavy(api.MaxWeight-1)), api.OK)
	checkRight(t, boxed(nil, heavy(api.MaxWeight)), api.ErrLimit)
	checkRight(t, boxed(nil, heavy(api.MaxWeight+1)), api.ErrDomain)
	// An invalid item is found even behind a weight that is too great.
	checkRight(t, boxed([]int{2}, heavy(api.MaxWeight), ints(nil)), api.ErrDomain)
	checkRight(t, boxed([]int{2}, heavy(api.MaxWeight), ints(nil, 1)), api.ErrLimit)
	checkRight(t, boxed([]int{2}, nest(ints(nil, 1), api.MaxNest), ints(nil)), api.ErrDomain)
	// Every item is within the limit, but their sum is not.
	full := slices.Repeat([]api.Array{long(api.MaxSize)}, 5)
	checkRight(t, boxed([]int{3}, full[:3]...), api.OK)
	checkRight(t, boxed([]int{4}, full[:4]...), api.ErrLimit)
	checkRight(t, boxed([]int{5}, full...), api.ErrLimit)
}

// Neither call may go on for ever, though such an array is beyond what the promises cover.
func TestP302ArrayWithinItself(t *testing.T) {
	for count := 1; count <= 3; count++ {
		items := slices.Repeat([]api.Array{ints(nil, 1)}, count)
		items[count-1] = boxed([]int{count}, items...)
		if e, n := Right(items[count-1]), Weight(items[count-1]); e != api.ErrDomain || n != api.MaxWeight+1 {
			t.Errorf("Right = %d, and Weight = %d", e, n)
		}
	}
}

func TestP303Size(t *testing.T) {
	for _, a := range valid() {
		if n := Size(a); n != multiply(a.Shape) {
			t.Errorf("Size(%v) = %d", a, n)
		}
	}
	for _, c := range []struct {
		a    api.Array
		size int
	}{
		{api.Array{}, 0}, {api.Array{Kind: 4, Nums: []int{1, 2}, Items: []api.Array{{}}}, 0}, {api.Array{Nums: []int{1}}, 0}, {api.Array{Kind: -1, Items: []api.Array{{}}}, 0},
		{ints(nil), 0}, {ints([]int{7}, 1, 2), 2}, {chars([]int{-1}, 1, 2, 3), 3}, {boxed(nil, api.Array{}, api.Array{}), 2}, {boxed([]int{9}), 0},
		{api.Array{Kind: api.Int, Items: []api.Array{{}, {}}}, 0}, {api.Array{Kind: api.Char, Nums: []int{1}, Items: []api.Array{{}, {}}}, 1},
		{api.Array{Kind: api.Boxed, Nums: []int{1, 2, 3}}, 0}, {api.Array{Kind: api.Boxed, Nums: []int{1, 2, 3}, Items: []api.Array{{}}}, 1},
		{long(api.MaxSize), api.MaxSize}, {long(api.MaxSize + 1), api.MaxSize + 1}, {long(api.MaxWeight + 2), api.MaxWeight + 2},
	} {
		if n := Size(c.a); n != c.size {
			t.Errorf("Size(%s) = %d; want %d", brief(c.a), n, c.size)
		}
	}
}

func TestP303Weight(t *testing.T) {
	for _, a := range all() {
		for _, outer := range []api.Array{a, boxed(nil, a), boxed([]int{3}, a, ints(nil, 1), a), boxed([]int{2}, boxed([]int{2}, a, a), boxed([]int{0}))} {
			if n := Weight(outer); n != weigh(outer) {
				t.Errorf("Weight(%v) = %d; want %d", outer, n, weigh(outer))
			}
		}
	}
	for _, c := range []struct {
		a      api.Array
		weight int
	}{
		{api.Array{}, 0}, {api.Array{Kind: 4, Items: []api.Array{ints(nil, 1)}}, 0}, {ints([]int{0}), 0}, {boxed([]int{0}), 0}, {boxed(nil, ints([]int{0})), 1},
		{api.Array{Kind: api.Int, Nums: []int{1}, Items: []api.Array{ints(nil, 1)}}, 1}, {api.Array{Kind: api.Boxed, Nums: []int{1, 2}, Items: []api.Array{ints(nil, 1)}}, 2},
		{boxed(nil, ints([]int{5}, 1, 2)), 3}, {boxed([]int{2}, api.Array{}, api.Array{Kind: 4, Nums: []int{1}}), 2}, {nest(ints(nil, 1), 1000), 1001}, {nest(ints(nil, 1), 1<<16), 1<<16 + 1},
	} {
		if n := Weight(c.a); n != c.weight {
			t.Errorf("Weight(%s) = %d; want %d", brief(c.a), n, c.weight)
		}
	}
}

func TestP303WeightLimit(t *testing.T) {
	const most = api.MaxWeight + 1
	full := slices.Repeat([]api.Array{long(api.MaxSize)}, 40)
	for _, c := range []struct {
		a      api.Array
		weight int
	}{
		{heavy(api.MaxWeight - 1), api.MaxWeight - 1}, {heavy(api.MaxWeight), api.MaxWeight}, {heavy(most), most}, {heavy(most + 1), most}, {heavy(most + 1000), most},
		{boxed(nil, heavy(api.MaxWeight)), most}, {boxed(nil, heavy(most)), most}, {boxed([]int{2}, heavy(api.MaxWeight), heavy(api.MaxWeight)), most},
		{long(api.MaxWeight), api.MaxWeight}, {long(most), most}, {long(most + 1), most}, {boxed([]int{40}, full...), most}, {boxed([]int{3}, full[:3]...), 3 + 3*api.MaxSize},
		{boxed(nil, make([]api.Array, most+1)...), most}, {boxed(nil, make([]api.Array, api.MaxWeight)...), api.MaxWeight},
	} {
		if n := Weight(c.a); n != c.weight {
			t.Errorf("Weight(%s) = %d; want %d", brief(c.a), n, c.weight)
		}
	}
}

func TestP304Same(t *testing.T) {
	list := all()
	for _, a := range list {
		for _, b := range list {
			if Same(a, b) != equal(a, b) {
				t.Errorf("Same(%v, %v) = %t", a, b, Same(a, b))
			}
			first, second := boxed([]int{2}, counted(2), a), boxed([]int{2}, counted(2), b)
			if Same(first, second) != equal(a, b) {
				t.Errorf("Same(%v, %v) = %t", first, second, Same(first, second))
			}
		}
		if !Same(a, duplicate(a, true)) || !Same(duplicate(a, true), duplicate(a, false)) {
			t.Errorf("Same(%v, its copy) is false", a)
		}
	}
}

// variants returns arrays that differ from a in one place.
func variants(a api.Array) []api.Array {
	list := []api.Array{duplicate(a, false), duplicate(a, false), duplicate(a, false), duplicate(a, false)}
	list[0].Kind++
	list[1].Shape = append(list[1].Shape, 1)
	list[2].Nums = append(list[2].Nums, 0)
	list[3].Items = append(list[3].Items, api.Array{})
	for at := range a.Shape {
		b := duplicate(a, false)
		b.Shape[at]++
		list = append(list, b)
	}
	for at := range a.Nums {
		b := duplicate(a, false)
		b.Nums[at]--
		list = append(list, b)
	}
	for at, item := range a.Items {
		for _, other := range variants(item) {
			b := duplicate(a, false)
			b.Items[at] = other
			list = append(list, b)
		}
	}
	return list
}

func TestP304SameInEveryPart(t *testing.T) {
	for _, a := range all() {
		for _, b := range variants(a) {
			if Same(a, b) || Same(b, a) {
				t.Errorf("Same(%v, %v) is true", a, b)
			}
		}
	}
}

func TestP304Ends(t *testing.T) {
	for _, c := range []struct {
		a, b api.Array
		same bool
	}{
		{api.Array{}, api.Array{}, true}, {ints(nil, 1), chars(nil, 1), false}, {ints([]int{0}), chars([]int{0}), false}, {ints([]int{0}), boxed([]int{0}), false},
		{ints([]int{0, 3}), ints([]int{3, 0}), false}, {ints([]int{1}, 1), ints(nil, 1), false}, {ints([]int{}, 1), ints(nil, 1), true},
		{api.Array{Kind: 9, Nums: []int{1}}, api.Array{Kind: 9, Nums: []int{1}}, true}, {api.Array{Kind: 9, Nums: []int{1}}, api.Array{Kind: 9}, false},
		{api.Array{Kind: api.Int, Items: []api.Array{{}}}, api.Array{Kind: api.Int}, false}, {api.Array{Kind: api.Boxed, Nums: []int{1}}, api.Array{Kind: api.Boxed, Nums: []int{2}}, false},
		{nest(ints(nil, 1), 1<<16), nest(ints(nil, 1), 1<<16), true}, {nest(ints(nil, 1), 1<<16), nest(ints(nil, 2), 1<<16), false},
		{nest(ints(nil, 1), 20), nest(ints(nil, 1), 21), false}, {long(api.MaxWeight), long(api.MaxWeight), true}, {long(api.MaxWeight), long(api.MaxWeight + 1), false},
	} {
		if Same(c.a, c.b) != c.same || Same(c.b, c.a) != c.same {
			t.Errorf("Same(%s, %s) = %t", brief(c.a), brief(c.b), !c.same)
		}
	}
}

func TestP304Clone(t *testing.T) {
	for _, a := range append(all(), heavy(api.MaxWeight), long(api.MaxWeight+5), boxed([]int{1}, boxed([]int{2}, counted(2, 2), api.Array{Kind: 8, Nums: []int{1}}))) {
		b := Clone(a)
		check(t, "Clone("+brief(a)+")", b, a)
		if !Same(a, b) || !reflect.DeepEqual(a, b) {
			t.Errorf("Clone(%s) is not the same", brief(a))
		}
		checkSeparate(t, "Clone", duplicate(a, false), b, Clone(a))
	}
	deep := nest(counted(2), 1<<16)
	if !Same(Clone(deep), deep) {
		t.Error("a clone of a deep array is not the same")
	}
}

// Changing a copy anywhere must leave the original as it was.
func TestP304CloneIsSeparate(t *testing.T) {
	a := boxed([]int{2}, boxed([]int{1}, counted(2)), chars([]int{1}, 'a'))
	b := Clone(a)
	b.Shape[0], b.Items[0].Shape[0], b.Items[0].Items[0].Shape[0], b.Items[0].Items[0].Nums[1], b.Items[1].Nums[0] = 9, 9, 9, 9, 9
	b.Items[0].Items[0], b.Items[1] = ints(nil, 5), ints(nil, 6)
	check(t, "the original", a, boxed([]int{2}, boxed([]int{1}, counted(2)), chars([]int{1}, 'a')))
}

func TestP305Scalar(t *testing.T) {
	for _, n := range []int{0, 1, -1, 5, 1 << 40, api.MaxNum - 1, api.MaxNum, -api.MaxNum} {
		check(t, fmt.Sprintf("Scalar(%d)", n), Scalar(n), ints(nil, n))
	}
	for _, n := range []int{api.MaxNum + 1, -api.MaxNum - 1, math.MaxInt, math.MinInt} {
		check(t, fmt.Sprintf("Scalar(%d)", n), Scalar(n), api.Array{})
	}
}

func TestP305Vector(t *testing.T) {
	check(t, "Vector()", Vector(), ints([]int{0}))
	check(t, "Vector(7)", Vector(7), ints([]int{1}, 7))
	check(t, "Vector(3, -1, 3)", Vector(3, -1, 3), ints([]int{3}, 3, -1, 3))
	check(t, "Vector(ends)", Vector(api.MaxNum, -api.MaxNum), ints([]int{2}, api.MaxNum, -api.MaxNum))
	check(t, "Vector(0, too much)", Vector(0, api.MaxNum+1), api.Array{})
	check(t, "Vector(too little, 0)", Vector(math.MinInt, 0), api.Array{})
	check(t, "Vector(a list of the greatest size)", Vector(make([]int, api.MaxSize)...), long(api.MaxSize))
	check(t, "Vector(a list that is too long)", Vector(make([]int, api.MaxSize+1)...), api.Array{})
}

func TestP305Text(t *testing.T) {
	check(t, "Text of nothing", Text(""), chars([]int{0}))
	check(t, "Text", Text("a\x00\n\u00e9\u20ac\U0001F600"), chars([]int{6}, 'a', 0, '\n', 0xE9, 0x20AC, 0x1F600))
	check(t, "Text of the replacement character", Text("\uFFFD"), chars([]int{1}, 0xFFFD))
	check(t, "Text of ends", Text("\x7f\u0080\u07ff\u0800\ud7ff\ue000\uffff\U00010000\U0010ffff"), chars([]int{9}, 0x7F, 0x80, 0x7FF, 0x800, 0xD7FF, 0xE000, 0xFFFF, 0x10000, 0x10FFFF))
	for first := 0; first <= api.MaxRune; first += 4096 {
		var text strings.Builder
		var nums []int
		for n := first; n < first+4096; n++ {
			if utf8.ValidRune(rune(n)) {
				text.WriteRune(rune(n))
				nums = append(nums, n)
			}
		}
		check(t, fmt.Sprintf("Text from %d on", first), Text(text.String()), chars([]int{len(nums)}, nums...))
	}
}

func TestP305TextLimit(t *testing.T) {
	for _, c := range []string{"a", "\u00e9", "\u20ac", "\U0001F600"} {
		n, _ := utf8.DecodeRuneInString(c)
		check(t, "Text of the greatest size", Text(strings.Repeat(c, api.MaxSize)), chars([]int{api.MaxSize}, repeat(int(n), api.MaxSize)...))
		check(t, "Text of a greater size", Text(strings.Repeat(c, api.MaxSize+1)), api.Array{})
	}
}

func TestP305NotUTF8(t *testing.T) {
	for _, s := range []string{
		"\x80", "\xff", "\xfe", "\xc0\x80", "\xc1\xbf", "\xc3", "\xe2\x82", "\xe0\x9f\xbf", "\xed\xa0\x80", "\xed\xbf\xbf", "\xf0\x9f\x98", "\xf0\x8f\xbf\xbf", "\xf4\x90\x80\x80", "\xf5\x80\x80\x80", "\xef\xbf",
	} {
		for _, text := range []string{s, "ab" + s, s + "ab", "a" + s + "b", "\uFFFD" + s, s + "\uFFFD", strings.Repeat("a", api.MaxSize) + s} {
			check(t, fmt.Sprintf("Text(%.20q)", text), Text(text), api.Array{})
		}
	}
}

func TestP305Box(t *testing.T) {
	for _, a := range valid() {
		want := boxed(nil, a)
		if depth(a) == api.MaxNest {
			want = api.Array{}
		}
		check(t, fmt.Sprintf("Box(%v)", a), Box(a), want)
	}
	for _, a := range broken() {
		check(t, fmt.Sprintf("Box(%v)", a), Box(a), api.Array{})
	}
	check(t, "Box of the greatest weight", Box(heavy(api.MaxWeight-1)), boxed(nil, heavy(api.MaxWeight-1)))
	check(t, "Box of a greater weight", Box(heavy(api.MaxWeight)), api.Array{})
	check(t, "Box of a deep array", Box(nest(ints(nil, 1), 1<<16)), api.Array{})
}

func TestP305Boxes(t *testing.T) {
	check(t, "Boxes()", Boxes(), boxed([]int{0}))
	for _, a := range all() {
		for _, b := range all() {
			want := boxed([]int{2}, a, b)
			if judge(want) != api.OK {
				want = api.Array{}
			}
			check(t, fmt.Sprintf("Boxes(%v, %v)", a, b), Boxes(a, b), want)
		}
		one := boxed([]int{1}, a)
		if judge(one) != api.OK {
			one = api.Array{}
		}
		check(t, fmt.Sprintf("Boxes(%v)", a), Boxes(a), one)
	}
}

func TestP305BoxesLimits(t *testing.T) {
	full := slices.Repeat([]api.Array{long(api.MaxSize)}, 4)
	check(t, "Boxes of the greatest weight", Boxes(full[0], full[1], full[2], long(api.MaxSize-4)), heavy(api.MaxWeight))
	check(t, "Boxes of a greater weight", Boxes(full[0], full[1], full[2], long(api.MaxSize-3)), api.Array{})
	check(t, "Boxes of a far greater weight", Boxes(full...), api.Array{})
	many := slices.Repeat([]api.Array{ints(nil, 1)}, api.MaxSize+1)
	check(t, "Boxes of the greatest size", Boxes(many[1:]...), boxed([]int{api.MaxSize}, many[1:]...))
	check(t, "Boxes of a greater size", Boxes(many...), api.Array{})
	check(t, "Boxes of a deep array", Boxes(ints(nil, 1), nest(ints(nil, 1), api.MaxNest)), api.Array{})
}

func TestP305Valid(t *testing.T) {
	for _, a := range []api.Array{Scalar(3), Vector(), Vector(1, 2), Text(""), Text("abc"), Box(Scalar(1)), Boxes(), Boxes(Text("a"), Vector())} {
		checkRight(t, a, api.OK)
	}
}

func TestP306Fill(t *testing.T) {
	fills := map[api.Kind]api.Array{api.Int: ints(nil, 0), api.Char: chars(nil, 32), api.Boxed: boxed(nil, ints([]int{0}))}
	for _, a := range append(all(), heavy(api.MaxWeight), long(api.MaxSize+1)) {
		check(t, "Fill("+brief(a)+")", Fill(a), fills[a.Kind])
	}
	for kind, want := range fills {
		check(t, "Fill of a kind", Fill(api.Array{Kind: kind}), want)
		checkRight(t, Fill(api.Array{Kind: kind}), api.OK)
	}
	for _, kind := range []api.Kind{0, -1, 4, math.MinInt, math.MaxInt} {
		check(t, "Fill of no kind", Fill(api.Array{Kind: kind, Nums: []int{1}, Items: []api.Array{ints(nil, 1)}}), api.Array{})
	}
}

func TestP306At(t *testing.T) {
	for _, a := range all() {
		size := 0
		switch a.Kind {
		case api.Int, api.Char:
			size = len(a.Nums)
			for i, n := range a.Nums {
				check(t, fmt.Sprintf("At(%v, %d)", a, i), At(a, i), api.Array{Kind: a.Kind, Nums: []int{n}})
			}
		case api.Boxed:
			size = len(a.Items)
			for i, item := range a.Items {
				check(t, fmt.Sprintf("At(%v, %d)", a, i), At(a, i), boxed(nil, item))
			}
		}
		for _, i := range []int{-1, size, size + 1, -size - 1, math.MinInt, math.MaxInt} {
			check(t, fmt.Sprintf("At(%v, %d)", a, i), At(a, i), api.Array{})
		}
	}
}

func TestP306AtEnds(t *testing.T) {
	check(t, "At of a character", At(chars([]int{2}, 'a', 'b'), 1), chars(nil, 'b'))
	check(t, "At of a matrix", At(counted(2, 3), 4), ints(nil, 5))
	check(t, "At of a scalar", At(ints(nil, 8), 0), ints(nil, 8))
	check(t, "At of a box", At(boxed([]int{2}, counted(2), chars(nil, 'a')), 1), boxed(nil, chars(nil, 'a')))
	check(t, "At of a box within a box", At(nest(ints(nil, 1), api.MaxNest), 0), nest(ints(nil, 1), api.MaxNest))
	check(t, "At of elements beyond the shape", At(ints([]int{1}, 7, math.MaxInt), 1), ints(nil, math.MaxInt))
	check(t, "At of an element that is missing", At(ints([]int{5}, 7, 8), 2), api.Array{})
	check(t, "At of an invalid item", At(boxed([]int{-1}, api.Array{Kind: 5, Nums: []int{1}}), 0), boxed(nil, api.Array{Kind: 5, Nums: []int{1}}))
	check(t, "At of a field of another kind", At(api.Array{Kind: api.Int, Items: []api.Array{{}}}, 0), api.Array{})
	check(t, "At of a field of another kind", At(api.Array{Kind: api.Boxed, Nums: []int{1, 2}, Items: []api.Array{ints(nil, 1)}}, 1), api.Array{})
	check(t, "At of no kind", At(api.Array{Nums: []int{1}, Items: []api.Array{{}}}, 0), api.Array{})
	check(t, "At of the last element", At(counted(256, 256), api.MaxSize-1), ints(nil, api.MaxSize))
}

// expectOf is what P307 says, element by element.
func expectOf(shape []int, from api.Array) (api.Array, api.Errno) {
	if judge(from) != api.OK {
		return api.Array{}, api.ErrArg
	}
	if e := judgeShape(shape); e != api.OK {
		return api.Array{}, e
	}
	result := api.Array{Kind: from.Kind, Shape: shape}
	for i := range multiply(shape) {
		switch {
		case len(from.Nums) > 0:
			result.Nums = append(result.Nums, from.Nums[i%len(from.Nums)])
		case len(from.Items) > 0:
			result.Items = append(result.Items, from.Items[i%len(from.Items)])
		case from.Kind == api.Int:
			result.Nums = append(result.Nums, 0)
		case from.Kind == api.Char:
			result.Nums = append(result.Nums, ' ')
		default:
			result.Items = append(result.Items, ints([]int{0}))
		}
	}
	if weigh(result) > api.MaxWeight {
		return api.Array{}, api.ErrLimit
	}
	return result, api.OK
}

func TestP307AllPairs(t *testing.T) {
	shapes := [][]int{
		nil, {0}, {1}, {2}, {5}, {7, 1}, {2, 3}, {3, 0}, {0, 256, 256}, {2, 2, 2}, repeat(1, api.MaxRank), {2, 1, 2, 1, 2, 1, 2, 1}, {100}, repeat(0, api.MaxRank),
		{-1}, {0, -1}, {api.MaxSize + 1, -1}, repeat(1, api.MaxRank+1), repeat(-1, api.MaxRank+1), {api.MaxSize + 1}, {0, 256, 257}, {1 << 32, 1 << 32}, {math.MinInt}, {math.MaxInt},
	}
	for _, shape := range shapes {
		for _, from := range append(all(), heavy(api.MaxWeight), heavy(api.MaxWeight+1)) {
			want, e := expectOf(shape, from)
			checkOf(t, shape, from, want, e)
			if got, _ := Of(shape, from); e == api.OK {
				checkRight(t, got, api.OK)
			}
		}
	}
}

func TestP307Errors(t *testing.T) {
	one := ints(nil, 1)
	checkOf(t, repeat(-1, api.MaxRank+1), api.Array{}, api.Array{}, api.ErrArg)
	checkOf(t, repeat(-1, api.MaxRank+1), one, api.Array{}, api.ErrRank)
	checkOf(t, repeat(api.MaxSize, api.MaxRank+1), one, api.Array{}, api.ErrRank)
	checkOf(t, []int{api.MaxSize + 1, -1}, one, api.Array{}, api.ErrLength)
	checkOf(t, []int{-1, 0}, one, api.Array{}, api.ErrLength)
	checkOf(t, []int{api.MaxSize + 1}, one, api.Array{}, api.ErrLimit)
	checkOf(t, []int{0, 256, 257}, one, api.Array{}, api.ErrLimit)
	checkOf(t, []int{256, 257, 0}, ints([]int{0}), api.Array{}, api.ErrLimit)
}

func TestP307Fill(t *testing.T) {
	checkOf(t, []int{2, 2}, ints([]int{0}), ints([]int{2, 2}, 0, 0, 0, 0), api.OK)
	checkOf(t, nil, chars([]int{0, 5}), chars(nil, ' '), api.OK)
	checkOf(t, []int{2}, boxed([]int{0}), boxed([]int{2}, ints([]int{0}), ints([]int{0})), api.OK)
	checkOf(t, []int{0, 2}, boxed([]int{0}), boxed([]int{0, 2}), api.OK)
	checkOf(t, []int{0}, counted(3), ints([]int{0}), api.OK)
	empty := boxed([]int{api.MaxSize}, slices.Repeat([]api.Array{ints([]int{0})}, api.MaxSize)...)
	checkOf(t, []int{api.MaxSize}, boxed([]int{0}), empty, api.OK)
}

func TestP307Cycle(t *testing.T) {
	for size := range 20 {
		for length := 1; length <= 7; length++ {
			from := counted(length)
			want, _ := expectOf([]int{size}, from)
			checkOf(t, []int{size}, from, want, api.OK)
			// A box is repeated with its item, and every copy is its own.
			want, _ = expectOf([]int{size}, boxed([]int{2}, from, chars(nil, 'a')))
			checkOf(t, []int{size}, boxed([]int{2}, from, chars(nil, 'a')), want, api.OK)
		}
	}
	got, e := Of([]int{256, 256}, counted(3))
	if e != api.OK || len(got.Nums) != api.MaxSize || got.Nums[api.MaxSize-1] != 1 || got.Nums[api.MaxSize-2] != 3 {
		t.Errorf("Of with the greatest size: %s, %d", brief(got), e)
	}
}

func TestP307Weight(t *testing.T) {
	// Each of these items adds 4 to the weight, so that MaxSize of them reach MaxWeight.
	item := counted(3)
	full := boxed([]int{api.MaxSize}, slices.Repeat([]api.Array{item}, api.MaxSize)...)
	checkOf(t, []int{api.MaxSize}, boxed(nil, item), full, api.OK)
	checkOf(t, []int{api.MaxSize}, boxed(nil, counted(4)), api.Array{}, api.ErrLimit)
	checkOf(t, []int{api.MaxSize}, boxed(nil, long(api.MaxSize)), api.Array{}, api.ErrLimit)
	checkOf(t, []int{1}, heavy(api.MaxWeight), boxed([]int{1}, long(api.MaxSize)), api.OK)
	checkOf(t, []int{4}, heavy(api.MaxWeight), heavy(api.MaxWeight), api.OK)
	checkOf(t, []int{5}, heavy(api.MaxWeight), api.Array{}, api.ErrLimit)
	checkOf(t, []int{0}, heavy(api.MaxWeight), boxed([]int{0}), api.OK)
	checkOf(t, []int{3}, boxed([]int{2}, long(api.MaxSize), ints([]int{0})), boxed([]int{3}, long(api.MaxSize), ints([]int{0}), long(api.MaxSize)), api.OK)
	checkOf(t, []int{6}, boxed([]int{2}, long(api.MaxSize), ints([]int{0})), boxed([]int{6}, long(api.MaxSize), ints([]int{0}), long(api.MaxSize), ints([]int{0}), long(api.MaxSize), ints([]int{0})), api.OK)
	checkOf(t, []int{7}, boxed([]int{2}, long(api.MaxSize), ints([]int{0})), api.Array{}, api.ErrLimit)
}

func TestP308Elements(t *testing.T) {
	for _, a := range append(valid(), heavy(api.MaxWeight), long(300)) {
		for i := range Size(a) {
			e := At(a, i)
			if Right(e) != api.OK || e.Kind != a.Kind || len(e.Shape) != 0 {
				t.Errorf("element %d of %s is %s", i, brief(a), brief(e))
			}
		}
	}
}

func TestP308OfItself(t *testing.T) {
	for _, a := range append(valid(), heavy(api.MaxWeight), long(api.MaxSize), counted(256, 256)) {
		checkOf(t, a.Shape, a, a, api.OK)
		if got, _ := Of(a.Shape, a); !Same(got, a) {
			t.Errorf("Of the shape of %s is not the same", brief(a))
		}
	}
}

func TestExamples(t *testing.T) {
	check(t, "Text", Text("hi"), chars([]int{2}, 104, 105))
	checkOf(t, []int{5}, Vector(1, 2), ints([]int{5}, 1, 2, 1, 2, 1), api.OK)
	matrix, _ := Of([]int{2, 2}, Vector(1, 2, 3, 4))
	if n := Weight(Boxes(matrix, Text("ab"))); n != 8 {
		t.Errorf("Weight = %d", n)
	}
}
