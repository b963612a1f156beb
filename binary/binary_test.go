package binary

import (
	"math"
	"math/big"
	"math/rand"
	"reflect"
	"slices"
	"strings"
	"testing"

	"arraylang/api"
	"arraylang/array"
	"arraylang/num"
)

// functions returns the dyadic scalar functions.
func functions() []api.Prim {
	return []api.Prim{
		api.PAdd, api.PSub, api.PMul, api.PDiv, api.PMod, api.PPow, api.PMin, api.PMax,
		api.PLess, api.PLessEq, api.PEqual, api.PNotEqual, api.PGreaterEq, api.PGreater, api.PAnd, api.POr,
	}
}

// equalities and comparisons return the functions that accept more than numbers.
func equalities() []api.Prim { return []api.Prim{api.PEqual, api.PNotEqual} }

func comparisons() []api.Prim {
	return []api.Prim{api.PLess, api.PLessEq, api.PGreaterEq, api.PGreater}
}

// others returns what is not a dyadic scalar function: the other primitives, and numbers that are no primitive, some of them a function modulo a power of two.
func others() []api.Prim {
	list := []api.Prim{api.PNot, api.PShape, api.PJoin, api.PSame, api.PLeft, api.PRight}
	for p := api.Prim(-300); p < 300; p++ {
		if !slices.Contains(functions(), p) {
			list = append(list, p)
		}
	}
	for _, p := range functions() {
		list = append(list, -p, p+1<<8, p+1<<16, p+1<<32, p+math.MinInt)
	}
	return append(list, math.MinInt, math.MinInt+1, math.MaxInt, math.MaxInt-1)
}

// numbers returns small numbers, those near powers of two and ten, and those near the ends of the range.
func numbers() []int {
	list := []int{0, 1, -1}
	for n := 2; n <= 20; n++ {
		list = append(list, n, -n)
	}
	for _, k := range []int{5, 6, 7, 8, 15, 16, 30, 31, 32, 33, 40, 59, 60, 61} {
		for d := -1; d <= 1; d++ {
			list = append(list, 1<<k+d, -1<<k+d)
		}
	}
	// The first of these is the greatest number whose square is a number.
	for _, n := range []int{2147483647, 1664510, 100, 1000, 1000000007, 1000000000000, 1<<60 + 12345, api.MaxNum - 1, api.MaxNum, api.MaxNum / 2, api.MaxNum/2 + 1, api.MaxNum / 3, api.MaxNum - 7} {
		list = append(list, n, -n)
	}
	return list
}

// strangers returns ints that are not numbers; some of them are 0, 1 or a small exponent modulo 2^62.
func strangers() []int {
	return []int{
		api.MaxNum + 1, -api.MaxNum - 1, api.MaxNum + 2, -api.MaxNum - 2, api.MaxNum + 11, -api.MaxNum - 11,
		math.MaxInt, math.MaxInt - 1, math.MinInt, math.MinInt + 1, math.MinInt + 2, math.MinInt + 10,
	}
}

// ints returns the Int array of the given shape and numbers; chars and boxed do so for the other kinds.
func ints(shape []int, nums ...int) api.Array {
	return api.Array{Kind: api.Int, Shape: shape, Nums: nums}
}

func chars(shape []int, nums ...int) api.Array {
	return api.Array{Kind: api.Char, Shape: shape, Nums: nums}
}

func boxed(shape []int, items ...api.Array) api.Array {
	return api.Array{Kind: api.Boxed, Shape: shape, Items: items}
}

func vector(nums ...int) api.Array { return ints([]int{len(nums)}, nums...) }

func product(shape []int) int {
	size := 1
	for _, d := range shape {
		size *= d
	}
	return size
}

// small returns shapes of all ranks with few elements or none; many of them agree, and many of the others have the same size or a common part.
func small() [][]int {
	return [][]int{
		nil, {}, {0}, {1}, {2}, {3}, {6}, {0, 3}, {3, 0}, {2, 3}, {3, 2}, {2, 2}, {1, 1}, {1, 2}, {2, 1}, {0, 0}, {2, 0},
		{2, 3, 2}, {2, 3, 1}, {2, 3, 0}, {2, 2, 3}, {3, 2, 2}, {1, 2, 3}, {0, 3, 2}, {1, 2, 3, 4}, {2, 3, 2, 2}, {2, 0, 2, 0}, {1, 2, 1, 2, 1}, {1, 2, 3, 1, 1, 2},
		{2, 2, 2, 2, 2, 2, 2}, {2, 3, 2, 1, 1, 1, 2, 2}, {2, 2, 2, 2, 2, 2, 2, 1}, slices.Repeat([]int{1}, api.MaxRank), slices.Repeat([]int{0}, api.MaxRank),
	}
}

// great returns shapes of the greatest sizes, and prefixes of them.
func great() [][]int {
	return [][]int{
		{}, {api.MaxSize}, {api.MaxSize - 1}, {api.MaxSize, 1}, {1, api.MaxSize}, {1}, {api.MaxSize, 0}, {0, api.MaxSize}, {0}, {256, 256}, {256}, {255}, {0, 256, 256},
		{2, 32768}, {2}, {32768, 2}, {32768}, slices.Repeat([]int{4}, api.MaxRank), slices.Repeat([]int{4}, 5), {4},
	}
}

// filled returns the Int array of the given shape whose elements are those of l, repeated cyclically.
func filled(shape []int, l []int) api.Array {
	nums := make([]int, product(shape))
	for i := range nums {
		nums[i] = l[i%len(l)]
	}
	return ints(shape, nums...)
}

// counted returns the Int array of the given shape with the elements first, first + step, and so on.
func counted(shape []int, first, step int) api.Array {
	nums := make([]int, product(shape))
	for i := range nums {
		nums[i] = first + i*step
	}
	return ints(shape, nums...)
}

// broken returns arrays that are not valid, of all kinds and for all reasons.
func broken() []api.Array {
	deep := ints(nil, 1)
	for range api.MaxNest + 1 {
		deep = boxed(nil, deep)
	}
	big := filled([]int{api.MaxSize}, []int{0})
	itself := boxed([]int{2}, ints(nil, 1), ints(nil, 1))
	itself.Items[1] = itself
	list := []api.Array{
		{}, {Nums: []int{1}}, {Kind: 4, Nums: []int{1}}, {Kind: -1, Nums: []int{1}}, {Kind: math.MinInt, Nums: []int{1}}, {Kind: 1 + 1<<32, Nums: []int{1}},
		ints(slices.Repeat([]int{1}, api.MaxRank+1), 1), ints([]int{-1}), ints([]int{-1}, 1), ints([]int{-1, -1}, 1), ints([]int{0, -1}), ints([]int{math.MinInt}),
		ints([]int{api.MaxSize + 1}), filled([]int{api.MaxSize + 1}, []int{1}), ints([]int{0, api.MaxSize + 1}), ints([]int{256, 257, 0}), ints([]int{math.MaxInt, 2}), ints([]int{1 << 32, 1 << 32}),
		ints(nil), ints(nil, 0, 1), ints([]int{2}, 1), ints([]int{2}, 1, 0, 1), ints([]int{0}, 1), ints([]int{2, 2}, 1, 1, 1),
		{Kind: api.Int, Nums: []int{1}, Items: []api.Array{{}}}, {Kind: api.Int, Shape: []int{0}, Items: []api.Array{ints(nil, 1)}}, {Kind: api.Int, Items: []api.Array{ints(nil, 1)}},
		chars(nil, -1), chars(nil, 0xD800), chars(nil, api.MaxRune+1), chars([]int{1}), chars([]int{-1}), {Kind: api.Char, Nums: []int{1}, Items: []api.Array{{}}},
		boxed(nil), boxed(nil, api.Array{}), boxed(nil, chars(nil, -1)), boxed([]int{0}, ints(nil, 1)), {Kind: api.Boxed, Nums: []int{1}}, deep, itself, boxed([]int{4}, big, big, big, big),
	}
	for _, n := range strangers() {
		list = append(list, ints(nil, n), vector(1, n), vector(n, 1), boxed(nil, ints(nil, n)))
	}
	return list
}

// boxes returns valid boxed arrays.
func boxes() []api.Array {
	return []api.Array{
		boxed([]int{0}), boxed([]int{0, 4}), boxed(nil, ints(nil, 1)), boxed([]int{1}, vector(0, 1)), boxed([]int{2}, ints(nil, 0), ints(nil, 1)),
		boxed(nil, boxed(nil, ints(nil, -1))), boxed([]int{2}, chars(nil, 'a'), vector(-1)), boxed([]int{3}, chars(nil, 'a'), chars(nil, 'b'), chars(nil, 'c')),
	}
}

// expect is what P1602 says about p, x and y, in exact arithmetic.
func expect(p api.Prim, x, y int) (int, api.Errno) {
	if !slices.Contains(functions(), p) || x < -api.MaxNum || x > api.MaxNum || y < -api.MaxNum || y > api.MaxNum {
		return 0, api.ErrArg
	}
	if e := excluded(p, x, y); e != api.OK {
		return 0, e
	}
	a, b := big.NewInt(int64(x)), big.NewInt(int64(y))
	order := a.Cmp(b)
	exact := new(big.Int)
	switch p {
	case api.PAdd:
		exact.Add(a, b)
	case api.PSub:
		exact.Sub(a, b)
	case api.PMul:
		exact.Mul(a, b)
	case api.PDiv:
		exact = floor(a, b)
	case api.PMod:
		exact.Sub(a, exact.Mul(b, floor(a, b)))
	case api.PPow:
		exact = power(a, y)
	default:
		exact.SetInt64(int64(compared(p, x, y, order)))
	}
	if exact.CmpAbs(big.NewInt(api.MaxNum)) > 0 {
		return 0, api.ErrOverflow
	}
	return int(exact.Int64()), api.OK
}

// excluded returns the error of p for two numbers, other than an overflow.
func excluded(p api.Prim, x, y int) api.Errno {
	bits := []int{0, 1}
	switch p {
	case api.PDiv, api.PMod:
		if y == 0 {
			return api.ErrZero
		}
	case api.PPow:
		if y < 0 {
			return api.ErrDomain
		}
	case api.PAnd, api.POr:
		if !slices.Contains(bits, x) || !slices.Contains(bits, y) {
			return api.ErrDomain
		}
	}
	return api.OK
}

// floor returns the quotient rounded down: the Euclidean one is rounded down if the divisor is positive.
func floor(a, b *big.Int) *big.Int {
	if b.Sign() < 0 {
		a, b = new(big.Int).Neg(a), new(big.Int).Neg(b)
	}
	return new(big.Int).Div(a, b)
}

// power returns a to the power n; the exponents beyond the limits differ in nothing but the time that they take.
func power(a *big.Int, n int) *big.Int {
	if n > 200 {
		n = 200 + n%2
	}
	return new(big.Int).Exp(a, big.NewInt(int64(n)), nil)
}

// compared returns the result of p, which is not arithmetic, for x and y with the given order.
func compared(p api.Prim, x, y, order int) int {
	signs := map[api.Prim][]int{api.PLess: {-1}, api.PLessEq: {-1, 0}, api.PEqual: {0}, api.PNotEqual: {-1, 1}, api.PGreaterEq: {0, 1}, api.PGreater: {1}}
	switch p {
	case api.PMin, api.PMax:
		if (order < 0) == (p == api.PMin) {
			return x
		}
		return y
	case api.PAnd:
		return x * y
	case api.POr:
		return (x + y + 1) / 2
	}
	return truthOf(slices.Contains(signs[p], order))
}

func truthOf(b bool) int {
	if b {
		return 1
	}
	return 0
}

// accepted is what the chapter says about the kinds that p accepts.
func accepted(p api.Prim, x, y api.Kind) bool {
	pair := [2]api.Kind{x, y}
	list := [][2]api.Kind{{api.Int, api.Int}}
	if slices.Contains(comparisons(), p) || slices.Contains(equalities(), p) {
		list = append(list, [2]api.Kind{api.Char, api.Char})
	}
	if slices.Contains(equalities(), p) {
		list = append(list, [2]api.Kind{api.Int, api.Char}, [2]api.Kind{api.Char, api.Int})
	}
	return slices.Contains(list, pair)
}

// indices returns all indices for shape in row-major order.
func indices(shape []int) [][]int {
	list := [][]int{nil}
	for _, d := range shape {
		var longer [][]int
		for _, index := range list {
			for i := range d {
				longer = append(longer, append(slices.Clone(index), i))
			}
		}
		list = longer
	}
	return list
}

// element returns the element of a at the part of index that is one for a.
func element(a api.Array, index []int) int {
	offset := 0
	for axis, d := range a.Shape {
		offset = offset*d + index[axis]
	}
	return a.Nums[offset]
}

// expectApply is what P1603 says about a function p and valid arrays.
func expectApply(p api.Prim, x, y api.Array) (api.Array, api.Errno) {
	if !accepted(p, x.Kind, y.Kind) {
		return api.Array{}, api.ErrKind
	}
	long, short := x.Shape, y.Shape
	if len(long) < len(short) {
		long, short = short, long
	}
	if !slices.Equal(long[:len(short)], short) {
		return api.Array{}, api.ErrLength
	}
	result := ints(long)
	for _, index := range indices(long) {
		v, e := expect(p, element(x, index), element(y, index))
		if x.Kind != y.Kind {
			v, e = truthOf(p == api.PNotEqual), api.OK
		}
		if e != api.OK {
			return api.Array{}, e
		}
		result.Nums = append(result.Nums, v)
	}
	return result, api.OK
}

func checkScalar(t *testing.T, p api.Prim, x, y, want int, e api.Errno) {
	t.Helper()
	if got, f := Scalar(p, x, y); got != want || f != e {
		t.Errorf("Scalar(%d, %d, %d) = %d, %d; want %d, %d", p, x, y, got, f, want, e)
	}
}

func checkApply(t *testing.T, p api.Prim, x, y, want api.Array, e api.Errno) {
	t.Helper()
	got, f := Apply(p, x, y)
	if f != e || !array.Same(got, want) {
		t.Errorf("Apply(%d, %s, %s) = %s, %d; want %s, %d", p, brief(x), brief(y), brief(got), f, brief(want), e)
	}
	if f != api.OK && !reflect.DeepEqual(got, api.Array{}) {
		t.Errorf("Apply(%d, %s, %s) returns %s with the error %d", p, brief(x), brief(y), brief(got), f)
	}
	if f == api.OK && array.Right(got) != api.OK {
		t.Errorf("Apply(%d, %s, %s) = %s is not valid", p, brief(x), brief(y), brief(got))
	}
}

// checkModel compares Apply with expectApply.
func checkModel(t *testing.T, p api.Prim, x, y api.Array) {
	t.Helper()
	want, e := expectApply(p, x, y)
	checkApply(t, p, x, y, want, e)
}

// brief describes a by its kind, its shape and its first elements; it does not visit items, which may contain themselves.
func brief(a api.Array) string {
	text := "[" + num.Show(int(a.Kind)) + "; "
	for _, d := range a.Shape {
		text += num.Show(d) + " "
	}
	text += "; "
	for _, n := range a.Nums[:min(len(a.Nums), 8)] {
		text += num.Show(n) + " "
	}
	return strings.TrimSpace(text) + "]"
}

func TestP1601NumbersPure(t *testing.T) {
	sample := []int{0, 1, 2, -1, 61, 62, api.MaxNum, -api.MaxNum, math.MinInt}
	for _, p := range append(functions(), others()...) {
		for _, x := range sample {
			for _, y := range sample {
				is := Is(p)
				first, e := Scalar(p, x, y)
				Scalar(p, y, 1-x)
				Apply(p, vector(1, 0, 1), vector(0, 1, 1))
				checkScalar(t, p, x, y, first, e)
				if Is(p) != is {
					t.Errorf("Is(%d) is %v, then %v", p, is, !is)
				}
			}
		}
	}
}

func TestP1601ArgumentsKept(t *testing.T) {
	for _, p := range append(functions(), api.PNot, 0, -1) {
		for _, l := range [][]int{{1, 0, 1, 1}, {1, 0, -1, 2}, {0, 1, 62, 3}, {0, 0, 0, 0}} {
			// What lies behind the shapes and the elements must be kept, too.
			wide, many := append([]int{2, 2}, 7, 8, 9), append(slices.Clone(l), 5, 6, 7)
			narrow, few := append([]int{2}, 7, 8, 9), append([]int{1, 2}, 5, 6, 7)
			a, b := ints(wide[:2], many[:4]...), ints(narrow[:1], few[:2]...)
			Apply(p, a, b)
			Apply(p, b, a)
			Apply(p, a, a)
			if !slices.Equal(wide, []int{2, 2, 7, 8, 9}) || !slices.Equal(many, append(slices.Clone(l), 5, 6, 7)) {
				t.Errorf("Apply(%d, ..) changed its argument to %v, %v", p, wide, many)
			}
			if !slices.Equal(narrow, []int{2, 7, 8, 9}) || !slices.Equal(few, []int{1, 2, 5, 6, 7}) {
				t.Errorf("Apply(%d, ..) changed its argument to %v, %v", p, narrow, few)
			}
		}
	}
}

func TestP1601NoSharedMemory(t *testing.T) {
	for _, p := range functions() {
		for _, rank := range []int{0, 1, 2} {
			x, y := roomy([]int{2, 2}, 1), roomy([]int{2, 2}[:rank], 1)
			for _, pair := range [][2]api.Array{{x, y}, {y, x}, {x, x}, {y, y}} {
				want, _ := expectApply(p, pair[0], pair[1])
				want = array.Clone(want)
				first, _ := Apply(p, pair[0], pair[1])
				second, _ := Apply(p, pair[0], pair[1])
				overwrite(first.Shape)
				overwrite(first.Nums)
				if !array.Same(second, want) {
					t.Errorf("two results of Apply(%d, ..) share memory: the second one is %s", p, brief(second))
				}
				checkApply(t, p, pair[0], pair[1], want, api.OK)
				a, b := array.Clone(pair[0]), array.Clone(pair[1])
				third, _ := Apply(p, a, b)
				overwrite(a.Shape)
				overwrite(a.Nums)
				overwrite(b.Shape)
				overwrite(b.Nums)
				if !array.Same(third, want) {
					t.Errorf("a result of Apply(%d, ..) changes with its argument to %s", p, brief(third))
				}
			}
		}
	}
}

// roomy returns the array of the given shape with one element n everywhere, whose lists have room behind their ends.
func roomy(shape []int, n int) api.Array {
	room, nums := make([]int, 0, 20), make([]int, 0, 20)
	return ints(append(room, shape...), append(nums, slices.Repeat([]int{n}, product(shape))...)...)
}

// overwrite changes l, also behind its end.
func overwrite(l []int) {
	for i := range l[:cap(l)] {
		l[:cap(l)][i] = -77
	}
}

func TestP1601NilIsEmpty(t *testing.T) {
	full := api.Array{Kind: api.Int, Shape: []int{}, Nums: []int{1}, Items: []api.Array{}}
	none := api.Array{Kind: api.Int, Shape: []int{0}, Nums: []int{}, Items: []api.Array{}}
	for _, p := range functions() {
		for _, pair := range [][2]api.Array{{full, ints(nil, 1)}, {ints(nil, 1), full}, {full, full}, {none, vector()}, {vector(), none}, {none, none}, {full, none}, {none, full}} {
			checkModel(t, p, pair[0], pair[1])
			// Fields that the chapter does not mention are zero.
			if got, _ := Apply(p, pair[0], pair[1]); len(got.Items) != 0 {
				t.Errorf("Apply(%d, ..) has %d items", p, len(got.Items))
			}
		}
	}
}

func TestP1602Is(t *testing.T) {
	for _, p := range functions() {
		if !Is(p) {
			t.Errorf("Is(%d) is false", p)
		}
	}
	for _, p := range others() {
		if Is(p) {
			t.Errorf("Is(%d) is true", p)
		}
	}
}

func TestP1602Values(t *testing.T) {
	list := numbers()
	for _, p := range functions() {
		for _, x := range list {
			for _, y := range list {
				want, e := expect(p, x, y)
				checkScalar(t, p, x, y, want, e)
			}
		}
	}
}

func TestP1602Ends(t *testing.T) {
	for _, c := range []struct {
		p          api.Prim
		x, y, want int
	}{
		{api.PAdd, 2, 3, 5}, {api.PAdd, api.MaxNum, -1, api.MaxNum - 1}, {api.PAdd, api.MaxNum, -api.MaxNum, 0}, {api.PAdd, api.MaxNum - 1, 1, api.MaxNum},
		{api.PSub, 2, 3, -1}, {api.PSub, 0, api.MaxNum, -api.MaxNum}, {api.PSub, api.MaxNum, api.MaxNum, 0}, {api.PSub, -api.MaxNum, -api.MaxNum, 0},
		{api.PMul, -2, 3, -6}, {api.PMul, api.MaxNum, -1, -api.MaxNum}, {api.PMul, 0, -api.MaxNum, 0}, {api.PMul, 1 << 31, 1<<31 - 1, 1<<62 - 1<<31},
		{api.PDiv, 7, 2, 3}, {api.PDiv, -7, 2, -4}, {api.PDiv, 7, -2, -4}, {api.PDiv, -7, -2, 3}, {api.PDiv, 0, -2, 0}, {api.PDiv, 1, -api.MaxNum, -1}, {api.PDiv, api.MaxNum, -1, -api.MaxNum},
		{api.PMod, 7, 2, 1}, {api.PMod, -7, 2, 1}, {api.PMod, 7, -2, -1}, {api.PMod, -7, -2, -1}, {api.PMod, 6, -2, 0}, {api.PMod, 2, 7, 2}, {api.PMod, 1, -api.MaxNum, 1 - api.MaxNum},
		{api.PPow, 2, 3, 8}, {api.PPow, 3, 2, 9}, {api.PPow, 0, 0, 1}, {api.PPow, -2, 3, -8}, {api.PPow, -1, api.MaxNum, -1}, {api.PPow, 1, api.MaxNum, 1}, {api.PPow, 0, api.MaxNum, 0}, {api.PPow, 2, 61, 1 << 61},
		{api.PMin, 2, 3, 2}, {api.PMin, 3, 2, 2}, {api.PMin, -api.MaxNum, api.MaxNum, -api.MaxNum}, {api.PMax, 2, 3, 3}, {api.PMax, 3, 2, 3}, {api.PMax, -api.MaxNum, api.MaxNum, api.MaxNum},
		{api.PLess, 2, 3, 1}, {api.PLess, 3, 3, 0}, {api.PLess, 4, 3, 0}, {api.PLessEq, 2, 3, 1}, {api.PLessEq, 3, 3, 1}, {api.PLessEq, 4, 3, 0},
		{api.PEqual, 2, 3, 0}, {api.PEqual, 3, 3, 1}, {api.PEqual, 4, 3, 0}, {api.PNotEqual, 2, 3, 1}, {api.PNotEqual, 3, 3, 0}, {api.PNotEqual, 4, 3, 1},
		{api.PGreaterEq, 2, 3, 0}, {api.PGreaterEq, 3, 3, 1}, {api.PGreaterEq, 4, 3, 1}, {api.PGreater, 2, 3, 0}, {api.PGreater, 3, 3, 0}, {api.PGreater, 4, 3, 1},
		{api.PLess, -api.MaxNum, api.MaxNum, 1}, {api.PGreater, -api.MaxNum, api.MaxNum, 0}, {api.PGreater, api.MaxNum, -api.MaxNum, 1}, {api.PEqual, 1, 1<<32 + 1, 0},
		{api.PAnd, 0, 0, 0}, {api.PAnd, 0, 1, 0}, {api.PAnd, 1, 0, 0}, {api.PAnd, 1, 1, 1}, {api.POr, 0, 0, 0}, {api.POr, 0, 1, 1}, {api.POr, 1, 0, 1}, {api.POr, 1, 1, 1},
	} {
		checkScalar(t, c.p, c.x, c.y, c.want, api.OK)
	}
}

func TestP1602Errors(t *testing.T) {
	for _, n := range []int{0, 1, -1, 7, api.MaxNum, -api.MaxNum} {
		checkScalar(t, api.PDiv, n, 0, 0, api.ErrZero)
		checkScalar(t, api.PMod, n, 0, 0, api.ErrZero)
		for _, y := range []int{-1, -2, -62, -1 << 32, -api.MaxNum} {
			checkScalar(t, api.PPow, n, y, 0, api.ErrDomain)
		}
	}
	for _, n := range []int{-1, 2, -2, 3, 1 << 32, 1<<32 + 1, api.MaxNum, -api.MaxNum} {
		for _, p := range []api.Prim{api.PAnd, api.POr} {
			for _, m := range []int{0, 1, n} {
				checkScalar(t, p, n, m, 0, api.ErrDomain)
				checkScalar(t, p, m, n, 0, api.ErrDomain)
			}
		}
	}
	checkScalar(t, api.PAdd, api.MaxNum, 1, 0, api.ErrOverflow)
	checkScalar(t, api.PSub, -api.MaxNum, 1, 0, api.ErrOverflow)
	checkScalar(t, api.PMul, 1<<31, 1<<31, 0, api.ErrOverflow)
	checkScalar(t, api.PMul, 1<<32, 1<<32, 0, api.ErrOverflow)
	checkScalar(t, api.PPow, 2, 62, 0, api.ErrOverflow)
	checkScalar(t, api.PPow, -2, api.MaxNum, 0, api.ErrOverflow)
}

func TestP1602Arguments(t *testing.T) {
	sample := []int{0, 1, 2, -1, 62, api.MaxNum, -api.MaxNum}
	for _, p := range others() {
		for _, x := range append(sample, math.MinInt, math.MaxInt) {
			for _, y := range append(sample, math.MinInt, math.MaxInt) {
				checkScalar(t, p, x, y, 0, api.ErrArg)
			}
		}
	}
	// Some of these would also be outside of the domain, overflow, or divide by zero.
	for _, p := range functions() {
		for _, n := range strangers() {
			for _, m := range append(sample, strangers()...) {
				checkScalar(t, p, n, m, 0, api.ErrArg)
				checkScalar(t, p, m, n, 0, api.ErrArg)
			}
		}
	}
}

func TestP1603Scalars(t *testing.T) {
	list := []int{0, 1, -1, 2, 3, -7, 62, 1 << 31, -1 << 31, 1 << 61, api.MaxNum, -api.MaxNum}
	for _, p := range functions() {
		for _, x := range list {
			for _, y := range list {
				for _, shape := range [][]int{nil, {1}, {1, 1, 1}} {
					checkModel(t, p, ints(shape, x), ints(shape, y))
					checkModel(t, p, ints(shape, x), ints(nil, y))
					checkModel(t, p, ints(nil, x), ints(shape, y))
				}
			}
		}
	}
}

func TestP1603Shapes(t *testing.T) {
	for _, p := range functions() {
		for _, a := range small() {
			for _, b := range small() {
				// With these elements, a result of PSub tells which elements it was computed from.
				x, y := counted(a, 1000, 1000), counted(b, 1, 1)
				if p == api.PPow || p == api.PAnd || p == api.POr {
					x, y = filled(a, []int{0, 1, 1, 0, 1, 0, 0}), filled(b, []int{1, 0, 0, 0, 1})
				}
				checkModel(t, p, x, y)
				if p != api.PPow {
					checkModel(t, p, y, x)
				}
			}
		}
	}
}

func TestP1603GreatShapes(t *testing.T) {
	for _, a := range great() {
		for _, b := range great() {
			x, y := counted(a, 1<<20, 1<<20), counted(b, 1, 1)
			checkModel(t, api.PSub, x, y)
		}
	}
}

func TestP1603Characters(t *testing.T) {
	list := []int{0, 1, 31, 32, 48, 97, 98, 127, 128, 255, 256, 0xD7FF, 0xE000, 0xFFFF, 0x10000, api.MaxRune - 1, api.MaxRune}
	for _, p := range append(comparisons(), equalities()...) {
		for _, x := range list {
			for _, y := range list {
				want, _ := expect(p, x, y)
				checkApply(t, p, chars(nil, x), chars(nil, y), ints(nil, want), api.OK)
			}
		}
		for _, a := range small() {
			for _, b := range small() {
				x, y := filled(a, []int{97, 98, 97, 99, 0x1F600}), filled(b, []int{97, 97, 98})
				x.Kind, y.Kind = api.Char, api.Char
				checkModel(t, p, x, y)
			}
		}
	}
}

func TestP1603NumbersAndCharacters(t *testing.T) {
	for p, want := range map[api.Prim]int{api.PEqual: 0, api.PNotEqual: 1} {
		for _, n := range []int{0, 1, 97, api.MaxRune} {
			for _, m := range []int{0, 1, 97, 98, api.MaxRune, -1, api.MaxNum, -api.MaxNum} {
				checkApply(t, p, chars(nil, n), ints(nil, m), ints(nil, want), api.OK)
				checkApply(t, p, ints(nil, m), chars(nil, n), ints(nil, want), api.OK)
			}
		}
		for _, a := range small() {
			for _, b := range small() {
				x, y := filled(a, []int{97, 98}), filled(b, []int{97, 98})
				y.Kind = api.Char
				checkModel(t, p, x, y)
				checkModel(t, p, y, x)
			}
		}
	}
}

func TestP1603Kinds(t *testing.T) {
	list := []api.Array{
		ints(nil, 1), vector(), vector(1, 0), vector(1, 0, 1), ints([]int{2, 2}, 1, 0, 0, 1), ints([]int{0, 3}), ints([]int{3, 0}),
		chars(nil, 'a'), chars(nil, 1), chars([]int{0}), chars([]int{2}, 0, 1), chars([]int{3}, 1, 1, 1), chars([]int{2, 2}, 1, 0, 0, 1), chars([]int{0, 3}), chars([]int{3, 0}),
	}
	list = append(list, boxes()...)
	for _, x := range list {
		if array.Right(x) != api.OK {
			t.Fatalf("%s is not valid", brief(x))
		}
		for _, y := range list {
			for _, p := range functions() {
				checkModel(t, p, x, y)
			}
			checkApply(t, api.PNot, x, y, api.Array{}, api.ErrArg)
		}
	}
}

func TestP1603Arguments(t *testing.T) {
	sample := []api.Array{ints(nil, 1), vector(), vector(1, 0), vector(-1), vector(62), chars([]int{1}, 'a'), chars(nil, 'a'), boxed([]int{0}), {}}
	for _, p := range others() {
		for _, x := range sample {
			for _, y := range sample {
				checkApply(t, p, x, y, api.Array{}, api.ErrArg)
			}
		}
	}
	for _, p := range append(functions(), api.PNot, 0) {
		for _, x := range broken() {
			if array.Right(x) == api.OK {
				t.Fatalf("%s is valid", brief(x))
			}
			for _, y := range sample {
				checkApply(t, p, x, y, api.Array{}, api.ErrArg)
				checkApply(t, p, y, x, api.Array{}, api.ErrArg)
			}
			checkApply(t, p, x, x, api.Array{}, api.ErrArg)
		}
	}
	// An earlier element is outside of the domain, or its power is not a number.
	checkApply(t, api.PAnd, vector(2, api.MaxNum+1), vector(1, 1), api.Array{}, api.ErrArg)
	checkApply(t, api.PDiv, vector(1, 1), vector(0, math.MinInt), api.Array{}, api.ErrArg)
}

func TestP1603ErrorOrder(t *testing.T) {
	for _, p := range functions() {
		// The shapes do not agree, either.
		checkApply(t, p, boxed([]int{2}, vector(), vector()), vector(1, 2, 3), api.Array{}, api.ErrKind)
		checkApply(t, p, vector(1, 2, 3), boxed([]int{2}, vector(), vector()), api.Array{}, api.ErrKind)
		if !slices.Contains(equalities(), p) {
			checkApply(t, p, chars([]int{2}, 1, 1), vector(1, 2, 3), api.Array{}, api.ErrKind)
			checkApply(t, p, vector(1, 2, 3), chars([]int{2}, 1, 1), api.Array{}, api.ErrKind)
		}
		// The elements have no results, either.
		checkApply(t, p, vector(api.MaxNum, api.MaxNum), vector(0, api.MaxNum, -1), api.Array{}, api.ErrLength)
		checkApply(t, p, ints([]int{1, 2}, 5, api.MaxNum), vector(0, -1), api.Array{}, api.ErrLength)
		checkApply(t, p, vector(0, -1), ints([]int{3, 2}, 0, 0, 0, -1, -1, -1), api.Array{}, api.ErrLength)
		checkApply(t, p, vector(5), vector(1, 2), api.Array{}, api.ErrLength)
		checkApply(t, p, vector(1, 2), vector(5), api.Array{}, api.ErrLength)
		checkApply(t, p, vector(), vector(5), api.Array{}, api.ErrLength)
	}
	checkApply(t, api.PEqual, chars([]int{2}, 1, 1), vector(1, 2, 3), api.Array{}, api.ErrLength)
	checkApply(t, api.PNotEqual, vector(1, 2, 3), chars([]int{2}, 1, 1), api.Array{}, api.ErrLength)
}

func TestP1603FirstError(t *testing.T) {
	checkApply(t, api.PPow, vector(2, 2, 2), vector(1, -1, 62), api.Array{}, api.ErrDomain)
	checkApply(t, api.PPow, vector(2, 2, 2), vector(1, 62, -1), api.Array{}, api.ErrOverflow)
	checkApply(t, api.PPow, ints(nil, 2), ints([]int{2, 2}, 1, 62, -1, 1), api.Array{}, api.ErrOverflow)
	checkApply(t, api.PPow, ints([]int{2, 2}, 2, 0, 3, 3), vector(61, -1), api.Array{}, api.ErrDomain)
	checkApply(t, api.PPow, vector(0, 3), ints([]int{2, 2}, 61, 62, 100, -1), api.Array{}, api.ErrOverflow)
	// All orders of the kinds of elements.
	sample := []int{0, 1, -1, 62, api.MaxNum}
	for code := range 5 * 5 * 5 * 5 * 5 * 5 {
		var l []int
		for rest := code; len(l) < 6; rest /= 5 {
			l = append(l, sample[rest%5])
		}
		for _, p := range []api.Prim{api.PAdd, api.PMul, api.PDiv, api.PMod, api.PPow, api.PAnd, api.POr} {
			checkModel(t, p, vector(l[:3]...), vector(l[3:]...))
			checkModel(t, p, vector(l[:2]...), ints([]int{2, 2}, l[2:]...))
			checkModel(t, p, ints([]int{2, 2}, l[2:]...), vector(l[:2]...))
		}
	}
}

func TestP1603ErrorAnywhere(t *testing.T) {
	for size := 1; size <= 9; size++ {
		for i := range size {
			y, one := filled([]int{size}, []int{1}), ints(nil, 1)
			y.Nums[i] = -1
			checkApply(t, api.PAnd, y, one, api.Array{}, api.ErrDomain)
			checkApply(t, api.POr, one, y, api.Array{}, api.ErrDomain)
			checkApply(t, api.PPow, ints(nil, 2), y, api.Array{}, api.ErrDomain)
			y.Nums[i] = 62
			checkApply(t, api.PPow, ints(nil, 2), y, api.Array{}, api.ErrOverflow)
			y.Nums[i] = 0
			checkApply(t, api.PDiv, one, y, api.Array{}, api.ErrZero)
			checkApply(t, api.PMod, y, y, api.Array{}, api.ErrZero)
			y.Nums[i] = api.MaxNum
			checkApply(t, api.PAdd, y, one, api.Array{}, api.ErrOverflow)
			checkApply(t, api.PMul, filled([]int{size, 3}, []int{2}), y, api.Array{}, api.ErrOverflow)
		}
	}
	y := filled([]int{256, 256}, []int{1})
	y.Nums[api.MaxSize-1] = 0
	checkApply(t, api.PDiv, ints(nil, 1), y, api.Array{}, api.ErrZero)
	checkApply(t, api.PDiv, filled([]int{256}, []int{5}), y, api.Array{}, api.ErrZero)
	y.Nums[api.MaxSize-1] = 2
	checkApply(t, api.PAnd, y, y, api.Array{}, api.ErrDomain)
}

func TestP1603NoElements(t *testing.T) {
	// No element of the result has an error, whatever the elements of the array that is extended.
	for _, p := range functions() {
		for _, n := range []int{0, -1, 62, api.MaxNum} {
			checkApply(t, p, ints(nil, n), vector(), ints([]int{0}), api.OK)
			checkApply(t, p, vector(), ints(nil, n), ints([]int{0}), api.OK)
			checkApply(t, p, vector(n, n), ints([]int{2, 0}), ints([]int{2, 0}), api.OK)
			checkApply(t, p, ints([]int{2, 0, 5}), vector(n, n), ints([]int{2, 0, 5}), api.OK)
		}
	}
	// The result is of kind Int also for characters.
	for _, p := range append(comparisons(), equalities()...) {
		checkApply(t, p, chars([]int{0}), chars([]int{0, 2}), ints([]int{0, 2}), api.OK)
		checkApply(t, p, chars(nil, 'a'), chars([]int{0}), ints([]int{0}), api.OK)
	}
	checkApply(t, api.PEqual, chars([]int{0}), vector(), ints([]int{0}), api.OK)
	checkApply(t, api.PNotEqual, vector(), chars([]int{0}), ints([]int{0}), api.OK)
}

func TestP1603Random(t *testing.T) {
	random := rand.New(rand.NewSource(16))
	for range 20000 {
		p := functions()[random.Intn(len(functions()))]
		long := make([]int, random.Intn(api.MaxRank+1))
		for i := range long {
			long[i] = random.Intn(4)
		}
		for product(long) > 200 {
			long = long[1:]
		}
		short := slices.Clone(long[:random.Intn(len(long)+1)])
		if len(short) > 0 && random.Intn(10) == 0 {
			short[random.Intn(len(short))]++
		}
		x, y := randomArray(random, long), randomArray(random, short)
		checkModel(t, p, x, y)
		checkModel(t, p, y, x)
	}
}

// randomArray returns an array of the given shape whose elements are mostly small; sometimes it is of kind Char.
func randomArray(random *rand.Rand, shape []int) api.Array {
	a := ints(shape, make([]int, product(shape))...)
	limit := []int{2, 2, 4, 100, api.MaxNum}[random.Intn(5)]
	for i := range a.Nums {
		a.Nums[i] = random.Intn(limit)
		if random.Intn(60) == 0 {
			a.Nums[i] = -1 - a.Nums[i]
		}
	}
	if limit == 100 && !slices.ContainsFunc(a.Nums, func(n int) bool { return n < 0 }) {
		a.Kind = api.Char
	}
	return a
}

func TestP1604Commutative(t *testing.T) {
	for _, p := range []api.Prim{api.PAdd, api.PMul, api.PMin, api.PMax, api.PEqual, api.PNotEqual, api.PAnd, api.POr} {
		for _, x := range numbers() {
			for _, y := range numbers() {
				want, e := Scalar(p, x, y)
				checkScalar(t, p, y, x, want, e)
			}
		}
		for _, a := range small() {
			for _, b := range small() {
				x, y := filled(a, []int{1, 0, 1, 1, 0}), filled(b, []int{0, 0, 1})
				want, e := Apply(p, x, y)
				checkApply(t, p, y, x, want, e)
				y.Kind = api.Char
				want, e = Apply(p, x, y)
				checkApply(t, p, y, x, want, e)
			}
		}
	}
}

func TestP1604Division(t *testing.T) {
	for _, x := range numbers() {
		for _, y := range numbers() {
			if y == 0 {
				continue
			}
			quotient, e := Scalar(api.PDiv, x, y)
			rest, f := Scalar(api.PMod, x, y)
			if e != api.OK || f != api.OK {
				t.Errorf("%d %% %d is the error %d, %d | %d the error %d", x, y, e, x, y, f)
			}
			if part, e := Scalar(api.PMul, y, quotient); e == api.OK {
				checkScalar(t, api.PAdd, part, rest, x, api.OK)
			}
		}
	}
	for _, a := range small() {
		for _, b := range small() {
			x, y := counted(a, -50, 7), filled(b, []int{3, -5, 1, 7, -2})
			quotient, e := Apply(api.PDiv, x, y)
			rest, _ := Apply(api.PMod, x, y)
			part, _ := Apply(api.PMul, y, quotient)
			if e == api.OK {
				// Where y has the longer shape, it is x extended.
				want, _ := expectApply(api.PAdd, x, counted(y.Shape, 0, 0))
				checkApply(t, api.PAdd, part, rest, want, api.OK)
			}
		}
	}
}

func TestP1604Opposites(t *testing.T) {
	for _, x := range numbers() {
		for _, y := range numbers() {
			want, e := Scalar(api.PGreater, y, x)
			checkScalar(t, api.PLess, x, y, want, e)
		}
	}
	for _, a := range small() {
		for _, b := range small() {
			x, y := filled(a, []int{1, 2, 3, 4}), filled(b, []int{3, 2, 1})
			for _, kinds := range [][2]api.Kind{{api.Int, api.Int}, {api.Char, api.Char}, {api.Int, api.Char}, {api.Char, api.Int}} {
				x.Kind, y.Kind = kinds[0], kinds[1]
				want, e := Apply(api.PGreater, y, x)
				checkApply(t, api.PLess, x, y, want, e)
			}
		}
	}
}

func TestP1605Extension(t *testing.T) {
	for _, p := range functions() {
		for _, n := range []int{0, 1, 2, -3, 97, 62, api.MaxNum, -api.MaxNum} {
			for _, shape := range append(small(), []int{api.MaxSize}, []int{256, 256}) {
				for _, l := range [][]int{{1, 0, 1, 1, 0}, {97, 98, 1}, {3, -7, 2, 97, 1}} {
					checkExtension(t, p, ints(nil, n), filled(shape, l))
				}
			}
		}
		for _, shape := range small() {
			y := filled(shape, []int{97, 98, 1})
			checkExtension(t, p, chars(nil, 97), y)
			y.Kind = api.Char
			checkExtension(t, p, chars(nil, 97), y)
			checkExtension(t, p, ints(nil, 97), y)
		}
	}
}

// checkExtension compares the results for the scalar s with those for the array of the shape of a whose elements are all that of s.
func checkExtension(t *testing.T, p api.Prim, s, a api.Array) {
	t.Helper()
	all, e := array.Of(a.Shape, s)
	if e != api.OK {
		t.Fatalf("array.Of is the error %d", e)
	}
	want, e := Apply(p, all, a)
	checkApply(t, p, s, a, want, e)
	want, e = Apply(p, a, all)
	checkApply(t, p, a, s, want, e)
}

func TestExamples(t *testing.T) {
	matrix := ints([]int{2, 3}, 1, 2, 3, 4, 5, 6)
	checkApply(t, api.PAdd, vector(10, 20), matrix, ints([]int{2, 3}, 11, 12, 13, 24, 25, 26), api.OK)
	checkApply(t, api.PAdd, matrix, vector(10, 20), ints([]int{2, 3}, 11, 12, 13, 24, 25, 26), api.OK)
	checkApply(t, api.PAdd, vector(1, 2, 3), matrix, api.Array{}, api.ErrLength)
	checkApply(t, api.PEqual, array.Text("ab"), vector(97, 98), vector(0, 0), api.OK)
	checkApply(t, api.PLess, array.Text("a"), ints(nil, 1), api.Array{}, api.ErrKind)
	checkApply(t, api.PDiv, vector(1, 2, 3), vector(1, 0, 0), api.Array{}, api.ErrZero)
	checkScalar(t, api.PMod, -7, 2, 1, api.OK)
	checkScalar(t, api.PAnd, 2, 0, 0, api.ErrDomain)
}
