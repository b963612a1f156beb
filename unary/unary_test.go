package unary

import (
	"math"
	"math/big"
	"math/rand"
	"reflect"
	"slices"
	"strings"
	"testing"

	"arraylang/api"
	"arraylang/array"
	"arraylang/num"
)

// functions returns the monadic scalar functions.
func functions() []api.Prim {
	return []api.Prim{api.PAdd, api.PSub, api.PMul, api.PMod, api.PPow, api.PNot}
}

// others returns what is not a monadic scalar function: the other primitives, and numbers that are no primitive, some of them a function modulo a power of two.
func others() []api.Prim {
	list := []api.Prim{api.PDiv, api.PMin, api.PMax, api.PEqual, api.PAnd, api.POr, api.PShape, api.PLeft, api.PRight}
	for p := api.Prim(-300); p < 300; p++ {
		if !slices.Contains(functions(), p) {
			list = append(list, p)
		}
	}
	for _, p := range functions() {
		list = append(list, -p, p+1<<8, p+1<<16, p+1<<32, p+math.MinInt)
	}
	return append(list, math.MinInt, math.MinInt+1, math.MaxInt, math.MaxInt-1)
}

// numbers returns small numbers, those near powers of two and ten, and those near the ends of the range.
func numbers() []int {
	list := []int{0, 1, -1}
	for n := 2; n <= 140; n++ {
		list = append(list, n, -n)
	}
	for k := range 62 {
		for d := -1; d <= 1; d++ {
			list = append(list, 1<<k+d, -1<<k+d)
		}
	}
	for n := 1000; n < api.MaxNum/10; n *= 10 {
		list = append(list, n, -n, n+1, -n-1)
	}
	return append(list, api.MaxNum, -api.MaxNum, api.MaxNum-1, 1-api.MaxNum, api.MaxNum/2, -api.MaxNum/2, api.MaxNum/3)
}

// strangers returns ints that are not numbers; some of them are 0, 1 or a small exponent modulo 2^62.
func strangers() []int {
	return []int{
		api.MaxNum + 1, -api.MaxNum - 1, api.MaxNum + 2, -api.MaxNum - 2, api.MaxNum + 11, -api.MaxNum - 11,
		math.MaxInt, math.MaxInt - 1, math.MinInt, math.MinInt + 1, math.MinInt + 2, math.MinInt + 10,
	}
}

// ints returns the Int array of the given shape and numbers; chars and boxed do so for the other kinds.
func ints(shape []int, nums ...int) api.Array {
	return api.Array{Kind: api.Int, Shape: shape, Nums: nums}
}

func chars(shape []int, nums ...int) api.Array {
	return api.Array{Kind: api.Char, Shape: shape, Nums: nums}
}

func boxed(shape []int, items ...api.Array) api.Array {
	return api.Array{Kind: api.Boxed, Shape: shape, Items: items}
}

func vector(nums ...int) api.Array { return ints([]int{len(nums)}, nums...) }

func product(shape []int) int {
	size := 1
	for _, d := range shape {
		size *= d
	}
	return size
}

// shapes returns shapes of all ranks, among them those without elements and of the greatest sizes.
func shapes() [][]int {
	return [][]int{
		nil, {}, {0}, {1}, {2}, {5}, {100}, {api.MaxSize}, {0, 3}, {3, 0}, {2, 3}, {3, 2}, {1, 1}, {256, 256}, {api.MaxSize, 0}, {0, 256, 256},
		{2, 2, 2}, {4, 1, 5}, {1, 2, 3, 4}, {2, 0, 2, 0}, {1, 2, 1, 2, 1}, {2, 1, 1, 1, 1, 3}, {2, 2, 2, 2, 2, 2, 2},
		slices.Repeat([]int{1}, api.MaxRank), slices.Repeat([]int{4}, api.MaxRank), slices.Repeat([]int{0}, api.MaxRank), {1, 2, 1, 2, 1, 2, 1, 2},
	}
}

// filled returns the Int array of the given shape whose elements are those of l, repeated cyclically.
func filled(shape []int, l []int) api.Array {
	nums := make([]int, product(shape))
	for i := range nums {
		nums[i] = l[i%len(l)]
	}
	return ints(shape, nums...)
}

// fitting returns numbers for which p has a value.
func fitting(p api.Prim) []int {
	var list []int
	for _, n := range numbers() {
		if _, e := expect(p, n); e == api.OK {
			list = append(list, n)
		}
	}
	return list
}

// foreign returns valid arrays that are not of kind Int.
func foreign() []api.Array {
	return []api.Array{
		chars(nil, 'a'), chars(nil, 0), chars(nil, 1), chars([]int{0}), chars([]int{2}, 0, 1), chars([]int{1}, 'a'), chars([]int{2, 2}, 1, 0, 0, 1), chars([]int{3, 0}),
		chars(nil, 5), chars([]int{3}, 200, 'x', api.MaxRune), boxed([]int{0}), boxed([]int{0, 4}), boxed(nil, ints(nil, 1)), boxed([]int{1}, vector(0, 1)),
		boxed([]int{2}, ints(nil, 0), ints(nil, 1)), boxed(nil, boxed(nil, ints(nil, -1))), boxed([]int{2}, chars(nil, 'a'), vector(-1)),
	}
}

// broken returns arrays that are not valid, of all kinds and for all reasons.
func broken() []api.Array {
	deep := ints(nil, 1)
	for range api.MaxNest + 1 {
		deep = boxed(nil, deep)
	}
	big := filled([]int{api.MaxSize}, []int{0})
	itself := boxed([]int{2}, ints(nil, 1), ints(nil, 1))
	itself.Items[1] = itself
	list := []api.Array{
		{}, {Nums: []int{1}}, {Kind: 4, Nums: []int{1}}, {Kind: -1, Nums: []int{1}}, {Kind: math.MinInt, Nums: []int{1}}, {Kind: 1 + 1<<32, Nums: []int{1}},
		ints(slices.Repeat([]int{1}, api.MaxRank+1), 1), ints([]int{-1}), ints([]int{-1}, 1), ints([]int{-1, -1}, 1), ints([]int{0, -1}), ints([]int{math.MinInt}),
		ints([]int{api.MaxSize + 1}), filled([]int{api.MaxSize + 1}, []int{1}), ints([]int{0, api.MaxSize + 1}), ints([]int{256, 257, 0}), ints([]int{math.MaxInt, 2}), ints([]int{1 << 32, 1 << 32}),
		ints(nil), ints(nil, 0, 1), ints([]int{2}, 1), ints([]int{2}, 1, 0, 1), ints([]int{0}, 1), ints([]int{2, 2}, 1, 1, 1),
		{Kind: api.Int, Nums: []int{1}, Items: []api.Array{{}}}, {Kind: api.Int, Shape: []int{0}, Items: []api.Array{ints(nil, 1)}}, {Kind: api.Int, Items: []api.Array{ints(nil, 1)}},
		chars(nil, -1), chars(nil, 0xD800), chars(nil, api.MaxRune+1), chars([]int{1}), chars([]int{-1}), {Kind: api.Char, Nums: []int{1}, Items: []api.Array{{}}},
		boxed(nil), boxed(nil, api.Array{}), boxed(nil, chars(nil, -1)), boxed([]int{0}, ints(nil, 1)), {Kind: api.Boxed, Nums: []int{1}}, deep, itself, boxed([]int{4}, big, big, big, big),
	}
	for _, n := range strangers() {
		list = append(list, ints(nil, n), vector(1, n), vector(n, 1), boxed(nil, ints(nil, n)))
	}
	return list
}

// expect is what P1503 says about p and n, in exact arithmetic.
func expect(p api.Prim, n int) (int, api.Errno) {
	if !slices.Contains(functions(), p) || n < -api.MaxNum || n > api.MaxNum {
		return 0, api.ErrArg
	}
	exact := big.NewInt(int64(n))
	switch p {
	case api.PSub:
		exact.Neg(exact)
	case api.PMul:
		exact.SetInt64(int64(exact.Sign()))
	case api.PMod:
		exact.Abs(exact)
	case api.PPow:
		if n < 0 {
			return 0, api.ErrDomain
		}
		// The exponents beyond this one differ in nothing but the time that their powers take.
		exact.Lsh(big.NewInt(1), uint(min(n, 1000)))
	case api.PNot:
		if n < 0 || n > 1 {
			return 0, api.ErrDomain
		}
		exact.Sub(big.NewInt(1), exact)
	}
	if exact.CmpAbs(big.NewInt(api.MaxNum)) > 0 {
		return 0, api.ErrOverflow
	}
	return int(exact.Int64()), api.OK
}

// expectApply is what P1504 says about p and an array of kind Int whose elements are numbers.
func expectApply(p api.Prim, y api.Array) (api.Array, api.Errno) {
	result := ints(y.Shape)
	for _, n := range y.Nums {
		v, e := expect(p, n)
		if e != api.OK {
			return api.Array{}, e
		}
		result.Nums = append(result.Nums, v)
	}
	return result, api.OK
}

func checkScalar(t *testing.T, p api.Prim, n, want int, e api.Errno) {
	t.Helper()
	if got, f := Scalar(p, n); got != want || f != e {
		t.Errorf("Scalar(%d, %d) = %d, %d; want %d, %d", p, n, got, f, want, e)
	}
}

func checkApply(t *testing.T, p api.Prim, y, want api.Array, e api.Errno) {
	t.Helper()
	got, f := Apply(p, y)
	if f != e || !array.Same(got, want) {
		t.Errorf("Apply(%d, %s) = %s, %d; want %s, %d", p, brief(y), brief(got), f, brief(want), e)
	}
	if f != api.OK && !reflect.DeepEqual(got, api.Array{}) {
		t.Errorf("Apply(%d, %s) returns %s with the error %d", p, brief(y), brief(got), f)
	}
	if f == api.OK && array.Right(got) != api.OK {
		t.Errorf("Apply(%d, %s) = %s is not valid", p, brief(y), brief(got))
	}
}

// brief describes a by its kind, its shape and its first elements; it does not visit items, which may contain themselves.
func brief(a api.Array) string {
	text := "[" + num.Show(int(a.Kind)) + "; "
	for _, d := range a.Shape {
		text += num.Show(d) + " "
	}
	text += "; "
	for _, n := range a.Nums[:min(len(a.Nums), 8)] {
		text += num.Show(n) + " "
	}
	return strings.TrimSpace(text) + "]"
}

func TestP1501NumbersPure(t *testing.T) {
	for _, p := range append(functions(), others()...) {
		for _, n := range []int{0, 1, 2, -1, 61, 62, api.MaxNum, -api.MaxNum, math.MinInt} {
			is := Is(p)
			first, e := Scalar(p, n)
			Scalar(p, 1-n)
			Apply(p, vector(1, 0, 1))
			checkScalar(t, p, n, first, e)
			if Is(p) != is {
				t.Errorf("Is(%d) is %v, then %v", p, is, !is)
			}
		}
	}
}

func TestP1501ArgumentsKept(t *testing.T) {
	for _, p := range append(functions(), api.PDiv, 0, -1) {
		for _, l := range [][]int{{1, 0, 1, 1}, {1, 0, -1, 2}, {0, 1, 62, 3}} {
			// What lies behind the shape and the elements must be kept, too.
			shape, nums := append([]int{2, 2}, 7, 8, 9), append(slices.Clone(l), 5, 6, 7)
			y := ints(shape[:2], nums[:4]...)
			Apply(p, y)
			if !slices.Equal(shape, []int{2, 2, 7, 8, 9}) || !slices.Equal(nums, append(slices.Clone(l), 5, 6, 7)) {
				t.Errorf("Apply(%d, ..) changed its argument to %v, %v", p, shape, nums)
			}
		}
	}
}

func TestP1501NoSharedMemory(t *testing.T) {
	for _, p := range functions() {
		shape, nums := make([]int, 2, 20), make([]int, 4, 20)
		shape[0], shape[1], nums[1] = 2, 2, 1
		y := ints(shape, nums...)
		want, _ := expectApply(p, y)
		first, _ := Apply(p, y)
		second, _ := Apply(p, y)
		overwrite(first.Shape)
		overwrite(first.Nums)
		if !slices.Equal(shape, []int{2, 2}) || !slices.Equal(nums, []int{0, 1, 0, 0}) || !array.Same(second, ints([]int{2, 2}, want.Nums...)) {
			t.Errorf("a result of Apply(%d, ..) shares memory: y is %s, the second result is %s", p, brief(y), brief(second))
		}
		checkApply(t, p, y, ints([]int{2, 2}, want.Nums...), api.OK)
		overwrite(shape)
		overwrite(nums)
		if !array.Same(second, ints([]int{2, 2}, want.Nums...)) {
			t.Errorf("a result of Apply(%d, ..) changes with its argument to %s", p, brief(second))
		}
	}
}

// overwrite changes l, also behind its end.
func overwrite(l []int) {
	for i := range l[:cap(l)] {
		l[:cap(l)][i] = -77
	}
}

func TestP1501NilIsEmpty(t *testing.T) {
	for _, p := range functions() {
		want, e := expectApply(p, ints(nil, 1))
		checkApply(t, p, api.Array{Kind: api.Int, Shape: []int{}, Nums: []int{1}, Items: []api.Array{}}, want, e)
		checkApply(t, p, api.Array{Kind: api.Int, Shape: []int{0}, Nums: []int{}, Items: []api.Array{}}, ints([]int{0}), api.OK)
		checkApply(t, p, api.Array{Kind: api.Int, Shape: []int{0}}, ints([]int{0}), api.OK)
	}
}

func TestP1502Is(t *testing.T) {
	for _, p := range functions() {
		if !Is(p) {
			t.Errorf("Is(%d) is false", p)
		}
	}
	for _, p := range others() {
		if Is(p) {
			t.Errorf("Is(%d) is true", p)
		}
	}
}

func TestP1503Values(t *testing.T) {
	for _, p := range functions() {
		for _, n := range append(numbers(), strangers()...) {
			want, e := expect(p, n)
			checkScalar(t, p, n, want, e)
		}
	}
}

func TestP1503Ends(t *testing.T) {
	for _, c := range []struct {
		p       api.Prim
		n, want int
	}{
		{api.PAdd, 0, 0}, {api.PAdd, 7, 7}, {api.PAdd, -7, -7}, {api.PAdd, api.MaxNum, api.MaxNum}, {api.PAdd, -api.MaxNum, -api.MaxNum},
		{api.PSub, 0, 0}, {api.PSub, 7, -7}, {api.PSub, -7, 7}, {api.PSub, api.MaxNum, -api.MaxNum}, {api.PSub, -api.MaxNum, api.MaxNum},
		{api.PMul, 0, 0}, {api.PMul, 1, 1}, {api.PMul, 7, 1}, {api.PMul, -1, -1}, {api.PMul, -7, -1}, {api.PMul, api.MaxNum, 1}, {api.PMul, -api.MaxNum, -1}, {api.PMul, 1 << 32, 1},
		{api.PMod, 0, 0}, {api.PMod, 7, 7}, {api.PMod, -7, 7}, {api.PMod, api.MaxNum, api.MaxNum}, {api.PMod, -api.MaxNum, api.MaxNum},
		{api.PPow, 0, 1}, {api.PPow, 1, 2}, {api.PPow, 2, 4}, {api.PPow, 10, 1024}, {api.PPow, 31, 1 << 31}, {api.PPow, 60, 1 << 60}, {api.PPow, 61, 1 << 61},
		{api.PNot, 0, 1}, {api.PNot, 1, 0},
	} {
		checkScalar(t, c.p, c.n, c.want, api.OK)
	}
}

func TestP1503Errors(t *testing.T) {
	for _, n := range []int{-1, 2, -2, 3, 1 << 32, 1<<32 + 1, 1 << 61, api.MaxNum, -api.MaxNum} {
		checkScalar(t, api.PNot, n, 0, api.ErrDomain)
	}
	for _, n := range []int{-1, -2, -10, -61, -62, -64, -1 << 32, -1 << 61, -api.MaxNum} {
		checkScalar(t, api.PPow, n, 0, api.ErrDomain)
	}
	for _, n := range []int{62, 63, 64, 65, 100, 126, 128, 1 << 16, 1 << 32, 1<<32 + 1, 1 << 61, api.MaxNum - 1, api.MaxNum} {
		checkScalar(t, api.PPow, n, 0, api.ErrOverflow)
	}
}

func TestP1503Arguments(t *testing.T) {
	for _, p := range others() {
		for _, n := range append([]int{0, 1, 2, -1, 62, api.MaxNum, -api.MaxNum}, strangers()...) {
			checkScalar(t, p, n, 0, api.ErrArg)
		}
	}
	// Some of these would also be outside of the domain, or overflow.
	for _, p := range functions() {
		for _, n := range strangers() {
			checkScalar(t, p, n, 0, api.ErrArg)
		}
	}
}

func TestP1504Scalars(t *testing.T) {
	for _, p := range functions() {
		for _, n := range numbers() {
			for _, shape := range [][]int{nil, {1}, {1, 1, 1}} {
				y := ints(shape, n)
				want, e := expectApply(p, y)
				checkApply(t, p, y, want, e)
			}
		}
	}
}

func TestP1504Shapes(t *testing.T) {
	for _, p := range functions() {
		for _, shape := range shapes() {
			y := filled(shape, fitting(p))
			want, _ := expectApply(p, y)
			checkApply(t, p, y, want, api.OK)
		}
	}
}

func TestP1504Arguments(t *testing.T) {
	for _, p := range others() {
		for _, y := range []api.Array{ints(nil, 1), vector(), vector(1, 0), vector(-1), vector(62), chars([]int{1}, 'a'), boxed([]int{0}), {}} {
			checkApply(t, p, y, api.Array{}, api.ErrArg)
		}
	}
	for _, p := range append(functions(), api.PDiv, 0) {
		for _, y := range broken() {
			checkApply(t, p, y, api.Array{}, api.ErrArg)
		}
	}
	// An earlier element is outside of the domain, or its power is not a number.
	checkApply(t, api.PNot, vector(2, api.MaxNum+1), api.Array{}, api.ErrArg)
	checkApply(t, api.PPow, vector(-1, math.MinInt), api.Array{}, api.ErrArg)
	checkApply(t, api.PPow, vector(62, math.MaxInt), api.Array{}, api.ErrArg)
}

func TestP1504Kinds(t *testing.T) {
	for _, y := range foreign() {
		if array.Right(y) != api.OK {
			t.Fatalf("%s is not valid", brief(y))
		}
		for _, p := range functions() {
			checkApply(t, p, y, api.Array{}, api.ErrKind)
		}
		checkApply(t, api.PDiv, y, api.Array{}, api.ErrArg)
	}
}

func TestP1504FirstError(t *testing.T) {
	checkApply(t, api.PNot, vector(0, 1, 2), api.Array{}, api.ErrDomain)
	checkApply(t, api.PNot, vector(-1, 1, 0), api.Array{}, api.ErrDomain)
	checkApply(t, api.PPow, vector(1, -1, 62), api.Array{}, api.ErrDomain)
	checkApply(t, api.PPow, vector(1, 62, -1), api.Array{}, api.ErrOverflow)
	checkApply(t, api.PPow, vector(62, 1, -1, 1), api.Array{}, api.ErrOverflow)
	checkApply(t, api.PPow, ints([]int{2, 2}, 1, -1, 62, 1), api.Array{}, api.ErrDomain)
	// All orders of the kinds of elements.
	sample := []int{0, 3, -1, 62, -api.MaxNum, api.MaxNum}
	for code := range 6 * 6 * 6 * 6 {
		y := vector(sample[code%6], sample[code/6%6], sample[code/36%6], sample[code/216])
		for _, p := range functions() {
			want, e := expectApply(p, y)
			checkApply(t, p, y, want, e)
		}
	}
}

func TestP1504ErrorAnywhere(t *testing.T) {
	for size := 1; size <= 9; size++ {
		for i := range size {
			y := filled([]int{size}, []int{1})
			y.Nums[i] = -1
			checkApply(t, api.PNot, y, api.Array{}, api.ErrDomain)
			checkApply(t, api.PPow, y, api.Array{}, api.ErrDomain)
			y.Nums[i] = 62
			checkApply(t, api.PPow, y, api.Array{}, api.ErrOverflow)
		}
	}
	y := filled([]int{256, 256}, []int{1})
	y.Nums[api.MaxSize-1] = 2
	checkApply(t, api.PNot, y, api.Array{}, api.ErrDomain)
	y.Nums[api.MaxSize-1] = 62
	checkApply(t, api.PPow, y, api.Array{}, api.ErrOverflow)
}

func TestP1504Random(t *testing.T) {
	random := rand.New(rand.NewSource(15))
	for range 20000 {
		p := functions()[random.Intn(len(functions()))]
		shape := make([]int, random.Intn(api.MaxRank+1))
		for i := range shape {
			shape[i] = random.Intn(4)
		}
		for product(shape) > 200 {
			shape = shape[1:]
		}
		y := ints(shape, make([]int, product(shape))...)
		// Few elements are outside of the domain, so that many results exist.
		for i := range y.Nums {
			y.Nums[i] = random.Intn(2)
			if random.Intn(40) == 0 || p == api.PPow && random.Intn(2) == 0 {
				y.Nums[i] = random.Intn(64) - random.Intn(2)
			}
			if p != api.PNot && p != api.PPow {
				y.Nums[i] = random.Intn(2*api.MaxNum) - api.MaxNum
			}
		}
		want, e := expectApply(p, y)
		checkApply(t, p, y, want, e)
	}
}

func TestP1505Inverses(t *testing.T) {
	for _, p := range []api.Prim{api.PSub, api.PNot} {
		for _, n := range fitting(p) {
			once, _ := Scalar(p, n)
			checkScalar(t, p, once, n, api.OK)
		}
		for _, shape := range shapes() {
			y := filled(shape, fitting(p))
			once, _ := Apply(p, y)
			checkApply(t, p, once, y, api.OK)
		}
	}
}

func TestP1505SignTimesValue(t *testing.T) {
	for _, n := range numbers() {
		sign, _ := Scalar(api.PMul, n)
		size, _ := Scalar(api.PMod, n)
		if m, e := num.Mul(sign, size); m != n || e != api.OK || size < 0 || sign < -1 || sign > 1 {
			t.Errorf("%d has the sign %d and the absolute value %d", n, sign, size)
		}
	}
}

func TestP1505Reshaping(t *testing.T) {
	for _, p := range functions() {
		for _, from := range shapes() {
			// An array without elements is reshaped to fill elements, which are not values of p.
			if product(from) == 0 {
				continue
			}
			y := filled(from, fitting(p))
			values, _ := Apply(p, y)
			for _, to := range shapes() {
				reshaped, _ := array.Of(to, y)
				want, _ := array.Of(to, values)
				checkApply(t, p, reshaped, want, api.OK)
			}
		}
	}
}

func TestP1505ElementsOnly(t *testing.T) {
	for _, p := range functions() {
		l := []int{0, 1, 3, -2, 61, 62, api.MaxNum, -api.MaxNum, 1, 0, 0, 1}
		for count := 1; count <= len(l); count++ {
			want, e := Apply(p, vector(l[:count]...))
			for _, shape := range [][]int{{count, 1}, {1, count}, {1, 1, count, 1}} {
				want.Shape = shape
				if e != api.OK {
					want = api.Array{}
				}
				checkApply(t, p, ints(shape, l[:count]...), want, e)
			}
		}
		for _, n := range fitting(p) {
			v, _ := Scalar(p, n)
			y := filled([]int{2, 3}, []int{n})
			checkApply(t, p, y, filled([]int{2, 3}, []int{v}), api.OK)
		}
	}
}

func TestExamples(t *testing.T) {
	checkApply(t, api.PSub, vector(1, -2), vector(-1, 2), api.OK)
	checkApply(t, api.PMul, vector(-5, 0, 7), vector(-1, 0, 1), api.OK)
	checkApply(t, api.PNot, vector(0, 1, 2), api.Array{}, api.ErrDomain)
	checkApply(t, api.PPow, vector(0, 10), vector(1, 1024), api.OK)
	checkApply(t, api.PAdd, chars([]int{1}, 'a'), api.Array{}, api.ErrKind)
}
