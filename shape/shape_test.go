package shape

import (
	"fmt"
	"math"
	"math/big"
	"slices"
	"strconv"
	"strings"
	"testing"

	"arraylang/api"
)

// repeat returns a list of count times d.
func repeat(d, count int) []int { return slices.Repeat([]int{d}, count) }

// shapes returns valid shapes: of every rank, with dimensions 0, and with products of exactly MaxSize.
func shapes() [][]int {
	list := [][]int{
		nil, {}, {0}, {1}, {5}, {2, 3}, {3, 2}, {2, 3, 4}, {1, 1, 7}, {7, 1, 1}, {0, 0}, {0, 5}, {5, 0}, {2, 0, 3}, {4, 1, 3, 2},
		{api.MaxSize}, {256, 256}, {1, api.MaxSize}, {api.MaxSize, 1, 1}, {2, 32768}, {32768, 2}, {16, 16, 16, 16},
		{0, api.MaxSize}, {api.MaxSize, 0}, {0, 256, 256}, {256, 0, 256}, {256, 256, 0}, {0, 65535}, {5, 13107},
		repeat(4, api.MaxRank), {1, 2, 1, 3, 1, 2, 1, 2}, {2, 2, 2, 2, 2, 2, 2, 0}, {0, 4, 4, 4, 4, 4, 4, 16},
	}
	for rank := range api.MaxRank + 1 {
		list = append(list, repeat(0, rank), repeat(1, rank), repeat(2, rank))
	}
	return list
}

// strangers returns lists that are not valid shapes.
func strangers() [][]int {
	list := [][]int{
		{-1}, {math.MinInt}, {2, -3}, {-2, -3}, {0, -1}, {-1, 0}, {1, 1, 1, 1, 1, 1, 1, -1}, {-api.MaxSize, -1},
		{api.MaxSize + 1}, {256, 257}, {257, 256}, {2, 32769}, {32769, 2}, {3, 21846}, {api.MaxSize, 2}, {2, api.MaxSize},
		{0, api.MaxSize + 1}, {api.MaxSize + 1, 0}, {0, 256, 257}, {256, 0, 257}, {256, 257, 0}, {api.MaxSize, 0, 2},
		{math.MaxInt}, {math.MaxInt, 0}, {0, math.MaxInt}, {math.MaxInt, math.MaxInt}, {math.MaxInt, 2}, {2, math.MaxInt},
		// These products are 0, 1 and a small number modulo 2^64.
		{1 << 32, 1 << 32}, {1 << 62, 4}, {1 << 16, 1 << 16, 1 << 16, 1 << 16}, {math.MaxInt, 2, math.MaxInt}, {4, 1<<62 + 1},
		{1 << 32, 0, 1 << 32}, {5, 3689348814741910323, 1},
	}
	for _, d := range []int{-1, 0, 1, 2, math.MaxInt, math.MinInt} {
		list = append(list, repeat(d, api.MaxRank+1), repeat(d, 1000))
	}
	return append(list, append(repeat(1, api.MaxRank), 0), append([]int{0}, repeat(1, api.MaxRank)...))
}

// isShape is what the chapter calls valid, in exact arithmetic.
func isShape(s []int) bool {
	product := big.NewInt(1)
	for _, d := range s {
		if d < 0 {
			return false
		}
		if d > 0 {
			product.Mul(product, big.NewInt(int64(d)))
		}
	}
	return len(s) <= api.MaxRank && product.Cmp(big.NewInt(api.MaxSize)) <= 0
}

// multiply returns the product of the numbers of list, which must be small.
func multiply(list []int) int {
	product := 1
	for _, d := range list {
		product *= d
	}
	return product
}

// indices returns all indices for s in row-major order.
func indices(s []int) [][]int {
	list := [][]int{{}}
	for _, d := range s {
		var longer [][]int
		for _, index := range list {
			for n := range d {
				longer = append(longer, append(slices.Clone(index), n))
			}
		}
		list = longer
	}
	return list
}

func checkOffset(t *testing.T, s, index []int, offset int, ok bool) {
	t.Helper()
	if n, found := Offset(s, index); n != offset || found != ok {
		t.Errorf("Offset(%v, %v) = %d, %t; want %d, %t", s, index, n, found, offset, ok)
	}
}

// isList reports whether got and found are what a call must return that should return want and ok.
func isList(got []int, found bool, want []int, ok bool) bool {
	return slices.Equal(got, want) && found == ok && (found || got == nil)
}

func checkIndex(t *testing.T, s []int, offset int, index []int, ok bool) {
	t.Helper()
	if got, found := Index(s, offset); !isList(got, found, index, ok) {
		t.Errorf("Index(%v, %d) = %#v, %t; want %v, %t", s, offset, got, found, index, ok)
	}
}

func checkAgree(t *testing.T, a, b, agreed []int, ok bool) {
	t.Helper()
	if got, found := Agree(a, b); !isList(got, found, agreed, ok) {
		t.Errorf("Agree(%v, %v) = %#v, %t; want %v, %t", a, b, got, found, agreed, ok)
	}
}

func checkRow(t *testing.T, s []int, frame, cells, size int) {
	t.Helper()
	if n, m := Row(s, frame); n != cells || m != size {
		t.Errorf("Row(%v, %d) = %d, %d; want %d, %d", s, frame, n, m, cells, size)
	}
}

func checkShow(t *testing.T, s []int, text string) {
	t.Helper()
	if got := Show(s); got != text {
		t.Errorf("Show(%v) = %q; want %q", s, got, text)
	}
}

// callAll calls every function with s, and returns all results as text.
func callAll(s, other []int, n int) string {
	offset, isIndex := Offset(s, other)
	index, isOffset := Index(s, n)
	agreed, ok := Agree(s, other)
	cells, size := Row(s, n)
	return fmt.Sprint(Right(s), Size(s), Same(s, other), offset, isIndex, index, isOffset, agreed, ok, cells, size, Show(s))
}

func TestP201Pure(t *testing.T) {
	list := append(shapes(), strangers()...)
	for _, s := range list {
		for _, other := range list {
			for _, n := range []int{-1, 0, 1, 3, math.MinInt, math.MaxInt} {
				first, second := slices.Clone(s), slices.Clone(other)
				results := callAll(first, second, n)
				if !slices.Equal(first, s) || !slices.Equal(second, other) {
					t.Fatalf("the calls for %v, %v and %d change them to %v and %v", s, other, n, first, second)
				}
				if again := callAll(first, second, n); again != results {
					t.Fatalf("the calls for %v, %v and %d return %s, then %s", s, other, n, results, again)
				}
			}
		}
	}
}

func TestP201NilIsEmpty(t *testing.T) {
	for _, s := range append(shapes(), strangers()...) {
		for _, n := range []int{-1, 0, 1} {
			if got, want := callAll(nil, s, n), callAll([]int{}, s, n); got != want {
				t.Errorf("the calls for nil, %v and %d return %s; for an empty list %s", s, n, got, want)
			}
			if got, want := callAll(s, nil, n), callAll(s, []int{}, n); got != want {
				t.Errorf("the calls for %v, nil and %d return %s; for an empty list %s", s, n, got, want)
			}
		}
	}
}

// A result that shares memory with an argument or with another result would change with it.
func TestP201NoSharedMemory(t *testing.T) {
	for _, pair := range [][2][]int{{{2, 3}, {2, 3}}, {{2}, {2, 3}}, {{2, 3}, {2}}, {nil, {2, 3}}} {
		a, b := slices.Clone(pair[0]), slices.Clone(pair[1])
		first, _ := Agree(a, b)
		second, _ := Agree(a, b)
		first[0], first[1] = 8, 9
		if !slices.Equal(a, pair[0]) || !slices.Equal(b, pair[1]) || !slices.Equal(second, []int{2, 3}) {
			t.Errorf("a result of Agree(%v, %v) shares memory", pair[0], pair[1])
		}
	}
	s := []int{2, 3}
	first, _ := Index(s, 5)
	second, _ := Index(s, 5)
	first[0], first[1] = 8, 9
	if !slices.Equal(s, []int{2, 3}) || !slices.Equal(second, []int{1, 2}) {
		t.Error("a result of Index shares memory")
	}
}

func TestP202Right(t *testing.T) {
	for _, s := range shapes() {
		if !Right(s) {
			t.Errorf("Right(%v) is false", s)
		}
	}
	for _, s := range strangers() {
		if Right(s) {
			t.Errorf("Right(%v) is true", s)
		}
	}
}

func TestP202Size(t *testing.T) {
	for _, s := range shapes() {
		if n := Size(s); n != multiply(s) {
			t.Errorf("Size(%v) = %d", s, n)
		}
	}
	for _, s := range strangers() {
		if n := Size(s); n != -1 {
			t.Errorf("Size(%v) = %d", s, n)
		}
	}
}

// Every list of up to three of these dimensions is tried, so that each of them stands at each place beside each other one.
func TestP202AllSmallLists(t *testing.T) {
	dims := []int{0, 1, 2, 3, 255, 256, 257, 32768, 65535, 65536, 65537, 1 << 31, 1 << 32, 1 << 62, math.MaxInt, -1, -2, math.MinInt}
	lists := [][]int{nil}
	for start := 0; start < len(lists); start++ {
		s := lists[start]
		if len(s) < 3 {
			for _, d := range dims {
				lists = append(lists, append(slices.Clone(s), d))
			}
		}
		size := -1
		if isShape(s) {
			size = multiply(s)
		}
		if Right(s) != (size >= 0) || Size(s) != size {
			t.Errorf("Right(%v) = %t, and Size = %d; want %d", s, Right(s), Size(s), size)
		}
	}
}

func TestP202Ends(t *testing.T) {
	for _, c := range []struct {
		s    []int
		size int
	}{
		{nil, 1}, {[]int{}, 1}, {[]int{0}, 0}, {[]int{2, 3}, 6},
		{[]int{api.MaxSize}, api.MaxSize}, {[]int{api.MaxSize + 1}, -1}, {[]int{256, 256}, api.MaxSize}, {[]int{256, 257}, -1},
		{[]int{0, 256, 256}, 0}, {[]int{0, 256, 257}, -1}, {[]int{256, 257, 0}, -1},
		{repeat(1, api.MaxRank), 1}, {repeat(1, api.MaxRank+1), -1}, {repeat(0, api.MaxRank), 0}, {repeat(0, api.MaxRank+1), -1},
		{repeat(4, api.MaxRank), api.MaxSize}, {append(repeat(4, api.MaxRank-1), 5), -1},
		{[]int{0, -1}, -1}, {[]int{1 << 32, 1 << 32}, -1}, {[]int{math.MinInt}, -1},
	} {
		if n := Size(c.s); n != c.size || Right(c.s) != (c.size >= 0) {
			t.Errorf("Size(%v) = %d, and Right = %t; want %d", c.s, n, Right(c.s), c.size)
		}
	}
}

func TestP202Same(t *testing.T) {
	list := append(shapes(), strangers()...)
	for _, a := range list {
		for _, b := range list {
			if Same(a, b) != slices.Equal(a, b) {
				t.Errorf("Same(%v, %v) = %t", a, b, Same(a, b))
			}
		}
		if !Same(a, slices.Clone(a)) {
			t.Errorf("Same(%v, its copy) is false", a)
		}
		if len(a) == 0 {
			continue
		}
		if Same(a, a[1:]) || Same(a, a[:len(a)-1]) || Same(a[:len(a)-1], a) || Same(append(slices.Clone(a), 0), a) {
			t.Errorf("Same takes %v for a shorter or longer list", a)
		}
		for at := range a {
			b := slices.Clone(a)
			b[at]++
			if Same(a, b) || Same(b, a) {
				t.Errorf("Same(%v, %v) is true", a, b)
			}
		}
	}
	if !Same(nil, []int{}) || !Same([]int{}, nil) || !Same(nil, nil) || Same(nil, []int{0}) || Same([]int{1}, nil) {
		t.Error("Same is wrong about an empty list")
	}
}

func TestP203AllIndices(t *testing.T) {
	for _, s := range shapes() {
		list := indices(s)
		if len(list) != multiply(s) {
			t.Fatalf("the test lists %d indices for %v", len(list), s)
		}
		for offset, index := range list {
			checkOffset(t, s, index, offset, true)
			checkIndex(t, s, offset, index, true)
		}
		for _, offset := range []int{-1, len(list), len(list) + 1, math.MinInt, math.MaxInt} {
			checkIndex(t, s, offset, nil, false)
		}
	}
}

func TestP203Ends(t *testing.T) {
	checkOffset(t, nil, nil, 0, true)
	checkIndex(t, nil, 0, nil, true)
	checkIndex(t, nil, 1, nil, false)
	checkIndex(t, nil, -1, nil, false)
	checkOffset(t, []int{2, 3}, []int{0, 0}, 0, true)
	checkOffset(t, []int{2, 3}, []int{1, 2}, 5, true)
	checkIndex(t, []int{2, 3}, 0, []int{0, 0}, true)
	checkIndex(t, []int{2, 3}, 5, []int{1, 2}, true)
	checkIndex(t, []int{2, 3}, 6, nil, false)
	checkIndex(t, []int{2, 3}, -1, nil, false)
	checkOffset(t, []int{api.MaxSize}, []int{api.MaxSize - 1}, api.MaxSize-1, true)
	checkOffset(t, []int{api.MaxSize}, []int{api.MaxSize}, 0, false)
	checkIndex(t, []int{256, 256}, api.MaxSize-1, []int{255, 255}, true)
	checkIndex(t, []int{256, 256}, api.MaxSize, nil, false)
	checkOffset(t, repeat(4, api.MaxRank), repeat(3, api.MaxRank), api.MaxSize-1, true)
	checkIndex(t, repeat(4, api.MaxRank), api.MaxSize-1, repeat(3, api.MaxRank), true)
	checkIndex(t, []int{0}, 0, nil, false)
	checkIndex(t, []int{2, 0}, 0, nil, false)
	checkOffset(t, []int{0}, []int{0}, 0, false)
	checkOffset(t, []int{2, 0}, []int{1, 0}, 0, false)
	checkOffset(t, []int{0, 2}, []int{0, 1}, 0, false)
}

func TestP203NotAnIndex(t *testing.T) {
	for _, s := range shapes() {
		if slices.Contains(s, 0) {
			continue
		}
		first := repeat(0, len(s))
		checkOffset(t, s, first, 0, true)
		checkOffset(t, s, append(slices.Clone(first), 0), 0, false)
		if len(s) == 0 {
			continue
		}
		checkOffset(t, s, first[1:], 0, false)
		checkOffset(t, s, nil, 0, false)
		for axis, d := range s {
			for _, n := range []int{-1, d, d + 1, -d, math.MinInt, math.MaxInt} {
				index := slices.Clone(first)
				index[axis] = n
				checkOffset(t, s, index, 0, false)
			}
		}
	}
}

// The offset of an index out of range must not be returned even if it is that of another index.
func TestP203OutOfRangeInside(t *testing.T) {
	checkOffset(t, []int{2, 3}, []int{0, 3}, 0, false)
	checkOffset(t, []int{2, 3}, []int{1, -1}, 0, false)
	checkOffset(t, []int{2, 3}, []int{-1, 3}, 0, false)
	checkOffset(t, []int{2, 3, 4}, []int{0, 3, 0}, 0, false)
	checkOffset(t, []int{2, 3}, []int{2, -3}, 0, false)
}

func TestP203NotAShape(t *testing.T) {
	for _, s := range strangers() {
		for _, n := range []int{0, 1, -1, math.MaxInt, math.MinInt} {
			checkIndex(t, s, n, nil, false)
			checkOffset(t, s, repeat(n, len(s)), 0, false)
		}
		checkOffset(t, s, nil, 0, false)
	}
	checkOffset(t, repeat(1, api.MaxRank+1), repeat(0, api.MaxRank+1), 0, false)
	checkOffset(t, []int{api.MaxSize + 1}, []int{3}, 0, false)
	checkOffset(t, []int{256, 257}, []int{1, 1}, 0, false)
}

func TestP204Inverse(t *testing.T) {
	for _, s := range shapes() {
		for offset := range Size(s) {
			index, ok := Index(s, offset)
			if !ok || len(index) != len(s) {
				t.Fatalf("Index(%v, %d) = %v, %t", s, offset, index, ok)
			}
			checkOffset(t, s, index, offset, true)
		}
		for _, index := range indices(s) {
			offset, ok := Offset(s, index)
			if !ok {
				t.Fatalf("Offset(%v, %v) is false", s, index)
			}
			checkIndex(t, s, offset, index, true)
		}
	}
}

// isPrefix reports whether a is a prefix of b.
func isPrefix(a, b []int) bool { return len(a) <= len(b) && slices.Equal(a, b[:len(a)]) }

func TestP205AllPairs(t *testing.T) {
	list := shapes()
	for _, a := range list {
		for _, b := range list {
			switch {
			case isPrefix(a, b):
				checkAgree(t, a, b, b, true)
			case isPrefix(b, a):
				checkAgree(t, a, b, a, true)
			default:
				checkAgree(t, a, b, nil, false)
			}
		}
	}
}

func TestP205Prefixes(t *testing.T) {
	for _, s := range shapes() {
		for length := range len(s) + 1 {
			checkAgree(t, s, s[:length], s, true)
			checkAgree(t, s[:length], s, s, true)
			for axis := range length {
				other := slices.Clone(s[:length])
				if other[axis] = 1; s[axis] == 1 {
					other[axis] = 0
				}
				checkAgree(t, s, other, nil, false)
				checkAgree(t, other, s, nil, false)
			}
		}
	}
}

func TestP205Ends(t *testing.T) {
	checkAgree(t, nil, nil, nil, true)
	checkAgree(t, nil, []int{}, nil, true)
	checkAgree(t, nil, []int{0}, []int{0}, true)
	checkAgree(t, []int{0}, nil, []int{0}, true)
	checkAgree(t, []int{2, 3}, []int{2, 3}, []int{2, 3}, true)
	checkAgree(t, []int{2}, []int{2, 3}, []int{2, 3}, true)
	checkAgree(t, []int{2, 3}, []int{2}, []int{2, 3}, true)
	checkAgree(t, []int{3}, []int{2, 3}, nil, false)
	checkAgree(t, []int{2, 3}, []int{3}, nil, false)
	checkAgree(t, []int{2, 3}, []int{2, 4}, nil, false)
	checkAgree(t, []int{1}, []int{2}, nil, false)
	checkAgree(t, repeat(2, api.MaxRank), repeat(2, api.MaxRank-1), repeat(2, api.MaxRank), true)
}

func TestP205NotShapes(t *testing.T) {
	for _, s := range strangers() {
		checkAgree(t, s, slices.Clone(s), nil, false)
		for length := range len(s) + 1 {
			checkAgree(t, s, s[:length], nil, false)
			checkAgree(t, s[:length], s, nil, false)
		}
		for _, other := range shapes() {
			checkAgree(t, s, other, nil, false)
			checkAgree(t, other, s, nil, false)
		}
	}
}

func TestP206Row(t *testing.T) {
	for _, s := range shapes() {
		for frame := range len(s) + 1 {
			checkRow(t, s, frame, multiply(s[:frame]), multiply(s[frame:]))
		}
		for _, frame := range []int{-1, len(s) + 1, len(s) + 2, math.MinInt, math.MaxInt} {
			checkRow(t, s, frame, 0, 0)
		}
	}
}

func TestP206Ends(t *testing.T) {
	checkRow(t, nil, 0, 1, 1)
	checkRow(t, nil, 1, 0, 0)
	checkRow(t, nil, -1, 0, 0)
	checkRow(t, []int{2, 3, 4}, 0, 1, 24)
	checkRow(t, []int{2, 3, 4}, 2, 6, 4)
	checkRow(t, []int{2, 3, 4}, 3, 24, 1)
	checkRow(t, []int{2, 3, 4}, 4, 0, 0)
	checkRow(t, []int{2, 3, 4}, -1, 0, 0)
	checkRow(t, []int{0, 256, 256}, 1, 0, api.MaxSize)
	checkRow(t, []int{256, 0, 256}, 1, 256, 0)
	checkRow(t, []int{256, 256, 0}, 2, api.MaxSize, 0)
	checkRow(t, []int{0}, 0, 1, 0)
	checkRow(t, []int{0}, 1, 0, 1)
	checkRow(t, repeat(4, api.MaxRank), api.MaxRank, api.MaxSize, 1)
}

func TestP206NotShapes(t *testing.T) {
	for _, s := range strangers() {
		for _, frame := range []int{-1, 0, 1, len(s) - 1, len(s), len(s) + 1, math.MinInt, math.MaxInt} {
			checkRow(t, s, frame, 0, 0)
		}
	}
}

func TestP207Numbers(t *testing.T) {
	list := []int{0, 1, -1, 9, 10, 11, -9, -10, 99, 100, 101, -100, 1000, 65536, 1000000, api.MaxNum, math.MaxInt, math.MinInt, math.MinInt + 1}
	for n := 1; n < math.MaxInt/10; n *= 10 {
		list = append(list, n-1, n, n+1, -n, 1-n, 9*n, 5*n)
	}
	for _, n := range list {
		text := strings.Replace(strconv.Itoa(n), "-", "_", 1)
		checkShow(t, []int{n}, text)
		checkShow(t, []int{n, n}, text+" "+text)
		checkShow(t, []int{0, n, 10}, "0 "+text+" 10")
	}
}

func TestP207Ends(t *testing.T) {
	checkShow(t, nil, "")
	checkShow(t, []int{}, "")
	checkShow(t, []int{0}, "0")
	checkShow(t, []int{-1}, "_1")
	checkShow(t, []int{math.MinInt}, "_9223372036854775808")
	checkShow(t, []int{math.MaxInt, math.MinInt}, "9223372036854775807 _9223372036854775808")
	checkShow(t, []int{100, 0, -20, 7}, "100 0 _20 7")
}

func TestP207AnyList(t *testing.T) {
	for _, s := range append(shapes(), strangers()...) {
		checkShow(t, s, strings.ReplaceAll(strings.Trim(fmt.Sprint(s), "[]"), "-", "_"))
	}
}

func TestExamples(t *testing.T) {
	if n := Size([]int{2, 3}); n != 6 {
		t.Errorf("Size = %d", n)
	}
	checkOffset(t, []int{2, 3}, []int{1, 2}, 5, true)
	checkIndex(t, []int{2, 3}, 4, []int{1, 1}, true)
	checkAgree(t, []int{2}, []int{2, 3}, []int{2, 3}, true)
	checkAgree(t, []int{3}, []int{2, 3}, nil, false)
	checkRow(t, []int{2, 3, 4}, 1, 2, 12)
	checkRow(t, []int{0, 256, 256}, 1, 0, 65536)
	if Right([]int{0, 256, 257}) {
		t.Error("0 256 257 is taken for a shape")
	}
	checkShow(t, []int{3, -5}, "3 _5")
}
